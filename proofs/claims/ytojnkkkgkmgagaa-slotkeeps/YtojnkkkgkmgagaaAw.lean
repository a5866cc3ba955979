/- A table that the call has made; rows of slots held together; the statements' fixed answers. -/
import Derived.Test.YtojnkkkgkmgagaaRf
namespace Go.Proofs.Ytojnkkkgkmgagaa
open Go.RowKit

def SameRel (n : Nat) (w : World) (i : Value) (W : World) : Prop := ∃ k m : Nat, k ≤ n ∧ i = .int .i64 (k : Int) ∧ W = w.drewN m
set_option maxRecDepth 100000 in
set_option maxHeartbeats 2000000 in
theorem refSame (l : List Ky) (x y : Option Addr) (c d : Nat) {w : World} (hl : l.length ≤ 2000) (hx : Keys w x c l) (hy : Keys w y d l) :
    Calls Try.prog 15 #[.slice x l.length c, .slice y l.length d] w (Saw (.bool true) w) := by
  have HX := Lib.hid hx
  have HY := Lib.hid hy
  clear hx hy
  go_enter Try.func15, Try.ntmps15
  go_wp2
  go_loopw [5] (fun i W => SameRel l.length w i W) (fun i _ => l.length - (intOf i).toNat)
  case atStart => exact ⟨0, 0, by omega, rfl, rfl⟩
  case round =>
    obtain ⟨k, m, hk, rfl, rfl⟩ := hrel
    by_cases hlt : k < l.length
    · have t1 : decide ((k : Int) < (l.length : Int)) = true := by simp; omega
      have hx : l[k]? = some l[k] := List.getElem?_eq_getElem hlt
      obtain ⟨b1, o1, rfl, _, u0, u1, u2, u3⟩ := HX.out.cells hx
      obtain ⟨b2, o2, rfl, _, v0, v1, v2, v3⟩ := HY.out.cells hx
      clear hx
      generalize l[k] = t at u0 u1 u2 u3 v0 v1 v2 v3
      obtain ⟨t0, t4, t5, t6⟩ := t
      simp only at u0 u1 u2 u3 v0 v1 v2 v3
      go_wp2
      go_quiet (fail)
      go_wp2
      go_roundw
      case rel => first | exact ⟨k + 1, _, by omega, by go_num, rfl⟩ | exact ⟨k + 1, _, by omega, by go_num, World.drewN_drewN _ _ _⟩
      case measure => simp [intOf]; omega
    · have t1 : decide ((k : Int) < (l.length : Int)) = false := by simp; omega
      have t1' : decide (k < l.length) = false := by simp; omega
      go_wp2
      go_ret
      exact ⟨rfl, m, rfl⟩

/-- A table that the call has made; all that was there ahead is as it was. -/
structure Has (w0 : World) (p room : Nat) (g : Option Nat) (m : List Ky) (W : World) : Prop where
  tab : Tab w0.heap.size W p room g m
  below : Below w0.heap.size w0 W
/-- It answers v; only the table's blocks have turned. -/
def Then (v : Value) (w0 : World) (p room : Nat) (g : Option Nat) (m : List Ky) (W : World) (e : Ending) (W' : World) : Prop :=
  e = .returned v ∧ ∃ g', Has w0 p room g' m W' ∧ Turns (fun k => k = p ∨ g = some k) W W' ∧ (g' = g ∨ ∃ k, g' = some k ∧ W.heap.size ≤ k)
section
variable {w0 W W' : World} {p room : Nat} {g : Option Nat} {m m' : List Ky}
theorem Has.acts {v : Value} (h : Has w0 p room g m W) {e : Ending} (ha : Acts v w0.heap.size p room g m' W e W') : Then v w0 p room g m' W e W' := by
  obtain ⟨rfl, g', h1, h2, h3⟩ := ha
  exact ⟨rfl, g', ⟨h1, h.below.trans (h2.below (fun k hk => (h.tab.lt hk).1) h.below.size)⟩, h2, h3⟩
theorem Has.keep (h : Has w0 p room g m W) (hb : Below W.heap.size W W') : Has w0 p room g m W' := ⟨h.tab.below hb, h.below.trans (hb.mono h.below.size)⟩
theorem Has.drewN (h : Has w0 p room g m W) (n : Nat) : Has w0 p room g m (W.drewN n) := h.keep (below_drewN (Below.refl _ _) n)
theorem Has.eq (h : Has w0 p room g m W) (e : m = m') : Has w0 p room g m' W := e ▸ h
theorem has_reserve (id gr n fr en : Int) (h : Has w0 p room g m W) : Calls Try.prog 12 #[.pointer (some ⟨p, 0, none⟩), .int .i64 id, .int .i64 gr, .int .i64 n, .int .i64 fr, .int .i64 en] W
    (Then (.tuple #[.int .i64 (resP room m id gr n fr en), .int .i64 (resE room m id gr n fr en)]) w0 p room g (resM room m id gr n fr en) W) := (reserve id gr n fr en h.tab).mono fun _ _ => h.acts
theorem has_free (id : Int) (h : Has w0 p room g m W) : Calls Try.prog 11 #[.pointer (some ⟨p, 0, none⟩), .int .i64 id] W (Then (.int .i64 (freeE m id)) w0 p room g (wo m id) W) := (free_ id h.tab).mono fun _ _ => h.acts
def HasNew (w0 : World) (room : Nat) (W : World) (e : Ending) (W' : World) : Prop := e = .returned (.tuple #[.pointer (some ⟨W.heap.size, 0, none⟩), .int .i64 0]) ∧ Has w0 W.heap.size room none [] W' ∧ Below W.heap.size W W'
theorem has_new (room : Nat) (hb : Below w0.heap.size w0 W) (h1 : 1 ≤ room) (h2 : room ≤ 256) : Calls Try.prog 10 #[.int .i64 (room : Int)] W (HasNew w0 room W) :=
  (new_ok (room : Int) (by omega) (by omega) W).mono fun e W' ⟨he, hw⟩ => by
    subst hw
    exact ⟨he, ⟨Tab.new hb.size h1 h2, hb.alloc hb.size _⟩, below_new _ _⟩
theorem Rows1.below {n : Nat} {l : List Ky} {w w' : World} {e : Ending} (h : Rows1 n l w e w') : Below w.heap.size w w' := by
  obtain ⟨A, c, _, hg⟩ := h
  exact hg.1
end

set_option maxRecDepth 100000 in
set_option maxHeartbeats 4000000 in
theorem awake (w : World) : Calls Try.prog 8 #[] w (Woke w) := by
  have K1 := Lib.hid (has_new (w0 := w) (W := w) 5 (Below.refl _ _) (by omega) (by omega))
  go_enter Try.func8, Try.ntmps8
  go_wp2_with (fail)
  refine K1.out.mono ?_
  rintro e w1 ⟨rfl, h, _⟩
  have H1 := Lib.hid h
  obtain ⟨p, hp⟩ : ∃ p, p = w.heap.size := ⟨_, rfl⟩
  rw [← hp] at H1 ⊢
  clear h hp
  go_wp2_with (fail)
  refine (has_reserve 1 1 3 0 10 H1.out).mono ?_
  rw [show resP 5 [] 1 1 3 0 10 = 7 by decide, show resE 5 [] 1 1 3 0 10 = 0 by decide, show resM 5 [] 1 1 3 0 10 = [(1, 1, 7, 10)] by decide]
  rintro e w2 ⟨rfl, g2, h, _⟩
  have H2 := Lib.hid h
  clear h
  go_wp2_with (fail)
  refine (has_reserve 2 1 3 0 10 H2.out).mono ?_
  rw [show resP 5 [(1, 1, 7, 10)] 2 1 3 0 10 = 4 by decide, show resE 5 [(1, 1, 7, 10)] 2 1 3 0 10 = 0 by decide, show resM 5 [(1, 1, 7, 10)] 2 1 3 0 10 = [(2, 1, 4, 7), (1, 1, 7, 10)] by decide]
  rintro e w3 ⟨rfl, g3, h, _⟩
  have H3 := Lib.hid h
  clear h
  go_wp2_with (fail)
  refine (has_reserve 3 2 3 0 10 H3.out).mono ?_
  rw [show resP 5 [(2, 1, 4, 7), (1, 1, 7, 10)] 3 2 3 0 10 = 7 by decide, show resE 5 [(2, 1, 4, 7), (1, 1, 7, 10)] 3 2 3 0 10 = 0 by decide, show resM 5 [(2, 1, 4, 7), (1, 1, 7, 10)] 3 2 3 0 10 = [(2, 1, 4, 7), (1, 1, 7, 10), (3, 2, 7, 10)] by decide]
  rintro e w4 ⟨rfl, g4, h, _⟩
  have H4 := Lib.hid h
  clear h
  obtain ⟨M, hM⟩ : ∃ M : List Ky, M = [(2, 1, 4, 7), (1, 1, 7, 10), (3, 2, 7, 10)] := ⟨_, rfl⟩
  have HM := Lib.hid hM
  rw [← hM] at H4
  clear hM
  go_wp2_with (fail)
  refine (has_reserve 3 2 3 0 10 H4.out).mono ?_
  rw [show resP 5 M 3 2 3 0 10 = 0 by rw [HM.out]; decide, show resE 5 M 3 2 3 0 10 = 7 by rw [HM.out]; decide, show resM 5 M 3 2 3 0 10 = M by rw [HM.out]; decide]
  rintro e w5 ⟨rfl, g5, h, _⟩
  have H5 := Lib.hid h
  clear h
  go_wp2_with (fail)
  refine (has_reserve 4 1 5 0 10 H5.out).mono ?_
  rw [show resP 5 M 4 1 5 0 10 = 0 by rw [HM.out]; decide, show resE 5 M 4 1 5 0 10 = 4 by rw [HM.out]; decide, show resM 5 M 4 1 5 0 10 = M by rw [HM.out]; decide]
  rintro e w6 ⟨rfl, g6, h, _⟩
  have H6 := Lib.hid h
  clear h
  go_wp2_with (fail)
  refine (depth_of 8 H6.out.tab).mono ?_
  rw [show (atL 8 M).length = 2 by rw [HM.out]; decide]
  rintro e w7 ⟨rfl, hb⟩
  have H7 := Lib.hid (H6.out.keep hb)
  clear hb
  go_wp2_with (fail)
  refine (at_of 5 H7.out.tab).mono ?_
  rw [show (atL 5 M).length = 1 by rw [HM.out]; decide]
  rintro e w8 ⟨A8, c8, rfl, hg⟩
  have H8 := Lib.hid (H7.out.keep hg.1)
  clear hg
  go_wp2_with (fail)
  refine (all_of H8.out.tab).mono ?_
  rw [show M.length = 3 by rw [HM.out]; decide]
  rintro e w9 ⟨A9, c9, rfl, hg⟩
  have H9 := Lib.hid (H8.out.keep hg.1)
  clear hg
  go_wp2_with (fail)
  refine (has_free 9 H9.out).mono ?_
  rw [show freeE M 9 = 4 by rw [HM.out]; decide]
  rintro e wA ⟨rfl, gA, h, _⟩
  have HA := Lib.hid h.below
  clear h
  go_wp2_with (fail)
  go_ret
  exact ⟨rfl, HA.out⟩
end Go.Proofs.Ytojnkkkgkmgagaa
