/- Two keys of a heap compared by their places, and set in one another's place. -/
import Derived.Test.YtblecehmbmbjiaaPl
import Derived.Lib.QuietBelow
import Derived.BigRegion
namespace Go.Proofs.Ytblecehmbmbjiaa
open Go.RowKit Go.Sort

theorem below_grow {w w' : World} {n : Nat} {os : Array Obj} (h : w' = grow (w.drewN n) os) : Below w.heap.size w w' := by
  subst h
  exact ⟨rfl, rfl, rfl, by simp [grow, World.drewN], fun k hk => by simp [grow, World.drewN, Array.getElem?_append, hk]⟩
/-- It answers v; of what was there nothing has turned. -/
def Tells (v : Value) (w : World) (e : Ending) (w' : World) : Prop := e = .returned v ∧ Below w.heap.size w w'
theorem compare_below (a b : Ky) (w : World) : Calls Try.prog 22 #[aggQ a, aggQ b] w (Tells (.int .i64 (cmpK a b)) w) :=
  (cmpKeys a b w).mono fun _ _ ⟨he, _, _, hw⟩ => ⟨he, below_grow hw⟩
theorem keyInfo : (Try.prog.info? 31).map (·.size) = some 4 := by kernel_rfl

set_option maxRecDepth 100000 in
set_option maxHeartbeats 1000000 in
theorem lessAt {l : List Ky} {i j : Nat} {a b : Ky} {p room t : Nat} {w : World} (h : Pl w p room t l) (hi : l[i]? = some a) (hj : l[j]? = some b) :
    Calls Try.prog 32 #[.pointer (some ⟨p, 0, none⟩), .int .i64 (i : Int), .int .i64 (j : Int)] w (Tells (.bool (lt a b)) w) := by
  have hil := (List.getElem?_eq_some_iff.1 hi).1
  have hjl := (List.getElem?_eq_some_iff.1 hj).1
  have hl := h.len
  have hpl := h.lt
  have ha := h.cells hi
  have hb := h.cells hj
  obtain ⟨a0, a1, a2, a3⟩ := a
  obtain ⟨b0, b1, b2, b3⟩ := b
  obtain ⟨x0, x1, x2, x3⟩ := ha
  obtain ⟨y0, y1, y2, y3⟩ := hb
  simp only at x0 x1 x2 x3 y0 y1 y2 y3
  have KC := Lib.hid (fun W => compare_below (a0, a1, a2, a3) (b0, b1, b2, b3) W)
  simp only [aggQ] at KC
  have HR := Lib.hid (show lt (a0, a1, a2, a3) (b0, b1, b2, b3) = decide (cmpK (a0, a1, a2, a3) (b0, b1, b2, b3) < 0) from rfl)
  generalize cmpK (a0, a1, a2, a3) (b0, b1, b2, b3) = r at KC HR
  rw [HR.out]
  have i1 : (0 : Int) ≤ (i : Int) := by omega
  have i2 : (i : Int) < 1024 := by omega
  have j1 : (0 : Int) ≤ (j : Int) := by omega
  have j2 : (j : Int) < 1024 := by omega
  clear hi hj h HR
  have X0 := cell_regrown x0
  have X1 := cell_regrown x1
  have X2 := cell_regrown x2
  have X3 := cell_regrown x3
  have Y0 := cell_regrown y0
  have Y1 := cell_regrown y1
  have Y2 := cell_regrown y2
  have Y3 := cell_regrown y3
  go_enter Try.func32, Try.ntmps32
  go_wp2
  refine wp_region_quiet_below (by kernel_rfl) (by kernel_rfl) ?_
  repeat (go_big_quiet_step (exact (KC.out _).regrown_of))
  refine wpQuiet_nil ?_
  intro _ hw'
  obtain ⟨⟨d, os⟩, hw''⟩ := hw'
  subst hw''
  go_wp2
  go_ret
  exact ⟨rfl, below_regrown _ _ _⟩

/-- Nothing is answered; of what was there only the heap's block has turned. -/
def Turned (p room t : Nat) (l : List Ky) (w : World) (e : Ending) (w' : World) : Prop := e = .returned (.tuple #[]) ∧ Pl w' p room t l ∧ Turns (fun k => k = p) w w'
set_option maxRecDepth 100000 in
set_option maxHeartbeats 1000000 in
theorem swapAt {l : List Ky} {i j : Nat} {a b : Ky} {p room t : Nat} {w : World} (h : Pl w p room t l) (hi : l[i]? = some a) (hj : l[j]? = some b) (hij : i ≠ j) :
    Calls Try.prog 33 #[.pointer (some ⟨p, 0, none⟩), .int .i64 (i : Int), .int .i64 (j : Int)] w (Turned p room t ((l.set i b).set j a) w) := by
  have hil := (List.getElem?_eq_some_iff.1 hi).1
  have hjl := (List.getElem?_eq_some_iff.1 hj).1
  have hl := h.len
  have hpl := h.lt
  have ha := h.cells hi
  have hb := h.cells hj
  have HP := Lib.hid h
  have HW := Lib.hid (show Pl ((w.setCells p (2 + i * 4) (cellsQ b)).setCells p (2 + j * 4) (cellsQ a)) p room t ((l.set i b).set j a) from (h.set b hil).set a (by simpa using hjl))
  have HT := Lib.hid (show Turns (fun k => k = p) w ((w.setCells p (2 + i * 4) (cellsQ b)).setCells p (2 + j * 4) (cellsQ a)) from turns_setCells (S := fun k => k = p) (g := p) rfl _ _ _ (turns_setCells (S := fun k => k = p) (g := p) rfl _ _ _ (Turns.refl _ _)))
  have n1 : ¬ i = j := hij
  have n2 : ¬ j = i := fun e => hij e.symm
  obtain ⟨a0, a1, a2, a3⟩ := a
  obtain ⟨b0, b1, b2, b3⟩ := b
  obtain ⟨x0, x1, x2, x3⟩ := ha
  obtain ⟨y0, y1, y2, y3⟩ := hb
  simp only at x0 x1 x2 x3 y0 y1 y2 y3
  have i1 : (0 : Int) ≤ (i : Int) := by omega
  have i2 : (i : Int) < 1024 := by omega
  have j1 : (0 : Int) ≤ (j : Int) := by omega
  have j2 : (j : Int) < 1024 := by omega
  have hf := h.thawed
  clear hi hj h
  go_enter Try.func33, Try.ntmps33
  go_wp2
  go_region
  go_wp2
  go_end0
  exact ⟨rfl, HW.out.drewN 1, HT.out.drewN 1⟩
end Go.Proofs.Ytblecehmbmbjiaa
