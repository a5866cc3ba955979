/- A sum and so many times a number more; pairs of numbers in a row; what is made of a time. -/
import Derived.Test.YtklnokhabomnfaaFq
import Derived.Test.YtklnokhabomnfaaMs
import Derived.Deep.DeepCutAuto
import Derived.Deep.RegionHeld3
import Derived.Lib.QuietBelow
namespace Go.Proofs.Ytklnokhabomnfaa
open Go.RowKit

set_option maxHeartbeats 400000 in
theorem add_wide (a b : Int) (w : World) (a0 : 0 ≤ a) (b0 : 0 ≤ b) (h : a + b ≤ 4611686018427387904) : Calls Try.prog 39 #[.int .i64 a, .int .i64 b] w (Says (.tuple #[.int .i64 (a + b), .bool true]) w) := by
  have k : decide (4611686018427387904 - b < a) = false := by simp; omega
  go_enter Try.func39, Try.ntmps39
  go_wp2_with (go_at_call 58; refine (isTime_yes _ _ (by omega) (by omega)).mono ?_; rintro e w' ⟨rfl, rfl⟩)
  go_ret2
  exact ⟨rfl, rfl⟩
set_option maxHeartbeats 1000000 in
theorem mul_wide (a b : Int) (w : World) (a0 : 0 ≤ a) (a1 : a ≤ 4611686018427387904) (b0 : 0 ≤ b) (b1 : b ≤ 4611686018427387904) (h : a * b ≤ 4611686018427387904) : Calls Try.prog 42 #[.int .i64 a, .int .i64 b] w (Says (.tuple #[.int .i64 (a * b), .bool true]) w) := by
  have p0 : 0 ≤ a * b := Int.mul_nonneg a0 b0
  by_cases hz : 0 < a
  · have k : decide (4611686018427387904 / a < b) = false := by
      refine decide_eq_false (Int.not_lt.2 ?_)
      rw [Int.le_ediv_iff_mul_le hz, Int.mul_comm]
      omega
    go_enter Try.func42, Try.ntmps42
    go_wp2_with (go_at_call 58; refine (isTime_yes _ _ (by omega) (by omega)).mono ?_; rintro e w' ⟨rfl, rfl⟩)
    go_ret2
    exact ⟨rfl, rfl⟩
  · obtain rfl : a = 0 := by omega
    clear p0 h
    rw [Int.zero_mul]
    go_enter Try.func42, Try.ntmps42
    go_wp2_with (go_at_call 58; refine (isTime_yes _ _ (by omega) (by omega)).mono ?_; rintro e w' ⟨rfl, rfl⟩)
    go_ret2
    exact ⟨by simp, rfl⟩
set_option maxHeartbeats 1000000 in
theorem plus (s m x : Int) (w : World) (s0 : 0 ≤ s) (s1 : s ≤ 1000000000000000000) (m0 : 0 ≤ m) (m1 : m ≤ 1000000000000) (x0 : 0 ≤ x) (x1 : x ≤ 1000000000000) (h : m * x ≤ 1000000000000000000) :
    Calls Try.prog 44 #[.int .i64 s, .int .i64 m, .int .i64 x] w (Says (.tuple #[.int .i64 (s + m * x), .bool true]) w) := by
  have p0 : 0 ≤ m * x := Int.mul_nonneg m0 x0
  have KM := Lib.hid (fun W => mul_wide m x W m0 (by omega) x0 (by omega) (by omega))
  generalize m * x = p at *
  have KA := Lib.hid (fun W => add_wide s p W s0 p0 (by omega))
  go_enter Try.func44, Try.ntmps44
  go_wp2_with (fail)
  with_reducible refine (KM.out _).mono ?_
  rintro e w2 ⟨rfl, rfl⟩
  go_wp2_with (fail)
  with_reducible refine (KA.out _).mono ?_
  rintro e w2 ⟨rfl, rfl⟩
  go_wp2
  go_ret2
  exact ⟨rfl, rfl⟩

/-- Pairs as cells. -/
def flatP : List (Int × Int) → List Value
  | [] => []
  | x :: l => .int .i64 x.1 :: .int .i64 x.2 :: flatP l
theorem length_flatP : ∀ l, (flatP l).length = l.length * 2
  | [] => rfl
  | x :: l => by simp [flatP, length_flatP l]; omega
theorem flatP_append : ∀ a b, flatP (a ++ b) = flatP a ++ flatP b
  | [], _ => rfl
  | x :: a, b => by simp [flatP, flatP_append a b]
theorem flatP_at : ∀ {l : List (Int × Int)} {i : Nat} {x : Int × Int}, l[i]? = some x → (flatP l)[i * 2]? = some (.int .i64 x.1) ∧ (flatP l)[i * 2 + 1]? = some (.int .i64 x.2)
  | [], i, x, h => by simp at h
  | q :: l, 0, x, h => by
    have : q = x := by simpa using h
    subst this
    exact ⟨rfl, rfl⟩
  | q :: l, i + 1, x, h => by
    have := flatP_at (l := l) (i := i) (by simpa using h)
    rw [show (i + 1) * 2 = i * 2 + 1 + 1 by omega]
    exact ⟨by simpa [flatP] using this.1, by simpa [flatP] using this.2⟩
/-- A slice that begins at a reads as the pairs l. -/
structure Pairs (w : World) (a : Option Addr) (cap : Nat) (l : List (Int × Int)) : Prop where
  le : l.length ≤ cap
  form : 0 < l.length → ∃ g, a = some ⟨g, 0, none⟩ ∧ g < w.heap.size ∧ ∀ j v, (flatP l)[j]? = some v → w.cell? ⟨g, j, none⟩ = some v
theorem Pairs.tells {w w' : World} {a : Option Addr} {cap : Nat} {l : List (Int × Int)} (h : Pairs w a cap l) (hb : Below w.heap.size w w') : Pairs w' a cap l := by
  refine ⟨h.le, fun h0 => ?_⟩
  obtain ⟨g, ha, hlt, hc⟩ := h.form h0
  exact ⟨g, ha, Nat.lt_of_lt_of_le hlt hb.size, fun j v hj => (hb.cell (p := ⟨g, j, none⟩) hlt).trans (hc j v hj)⟩
theorem Pairs.cells {w : World} {a : Option Addr} {cap : Nat} {l : List (Int × Int)} (h : Pairs w a cap l) {i : Nat} {x : Int × Int} (hi : l[i]? = some x) :
    ∃ g, a = some ⟨g, 0, none⟩ ∧ g < w.heap.size ∧ w.cell? ⟨g, i * 2, none⟩ = some (.int .i64 x.1) ∧ w.cell? ⟨g, i * 2 + 1, none⟩ = some (.int .i64 x.2) := by
  have hlt := (List.getElem?_eq_some_iff.1 hi).1
  obtain ⟨g, ha, hg, hc⟩ := h.form (by omega)
  exact ⟨g, ha, hg, hc _ _ (flatP_at hi).1, hc _ _ (flatP_at hi).2⟩

/-- A recurrence in the box that the call made first. -/
structure RecBox (w : World) (once length gap struck : Int) (a : Option Addr) (n cap : Nat) (W : World) : Prop where
  below : Below w.heap.size w W
  lies : Lies W w.heap.size 56 #[.int .i64 once, .slice a n cap, .int .i64 length, .int .i64 gap, .int .i64 struck]
section
variable {w W W' : World} {once length gap struck : Int} {a : Option Addr} {n cap : Nat}
theorem RecBox.made (w : World) (once length gap struck : Int) (a : Option Addr) (n cap : Nat) : RecBox w once length gap struck a n cap (w.alloc (.cells #[.int .i64 once, .slice a n cap, .int .i64 length, .int .i64 gap, .int .i64 struck] 56)) := ⟨below_new _ _, Lies.made _ _ _⟩
theorem RecBox.tells (h : RecBox w once length gap struck a n cap W) (hb : Below W.heap.size W W') : RecBox w once length gap struck a n cap W' := ⟨h.below.trans (hb.mono h.below.size), h.lies.below hb h.lies.lt⟩
theorem RecBox.cells (h : RecBox w once length gap struck a n cap W) : W.cell? ⟨w.heap.size, 0, none⟩ = some (.int .i64 once) ∧ W.cell? ⟨w.heap.size, 1, none⟩ = some (.slice a n cap) ∧ W.cell? ⟨w.heap.size, 2, none⟩ = some (.int .i64 length) ∧ W.cell? ⟨w.heap.size, 3, none⟩ = some (.int .i64 gap) ∧ W.cell? ⟨w.heap.size, 4, none⟩ = some (.int .i64 struck) :=
  ⟨h.lies.cell 0, h.lies.cell 1, h.lies.cell 2, h.lies.cell 3, h.lies.cell 4⟩
end
theorem Says.gives {v : Value} {w : World} {e : Ending} {w' : World} (h : Says v w e w') : Gives v w e w' := ⟨h.1, by rw [← h.2]; exact Below.refl _ _⟩

def NextRel (O P b g s x : Int) (L : List (Int × Int)) (a : Option Addr) (cap : Nat) (w : World) (sum i : Value) (W : World) : Prop :=
  ∃ k : Nat, k ≤ L.length ∧ i = .int .i64 (k : Int) ∧ sum = .int .i64 (O + P + sumA x (L.take k)) ∧ RecBox w O b g s a L.length cap W
set_option maxRecDepth 100000 in
set_option maxHeartbeats 4000000 in
theorem next (O b g s x : Int) {L : List (Int × Int)} {a : Option Addr} {cap n : Nat} {w : World} (hO : 0 ≤ O) (hO1 : O ≤ 2000000000) (hs : 0 ≤ s) (hs1 : s ≤ 1049576000) (x0 : 0 ≤ x) (x1 : x ≤ 1048576) (b0 : 1 ≤ b) (b1 : b ≤ 1000) (g0 : 1 ≤ g) (g1 : g ≤ 1049576)
    (hn : L.length = n) (hl : n ≤ 30) (hL : SmA L) (hp : Pairs w a cap L) :
    Calls Try.prog 32 #[.agg #[.int .i64 O, .slice a n cap, .int .i64 b, .int .i64 g, .int .i64 s], .int .i64 x] w (Gives (.tuple #[.int .i64 (O + mostF x b g * s + sumA x L), .bool true]) w) := by
  subst hn
  have HP := Lib.hid hp
  have HL := Lib.hid hL
  have HB := Lib.hid (RecBox.made w O b g s a L.length cap)
  have KM := Lib.hid (fun W => most x b g W x0 (by omega) b0 b1 g0 g1)
  obtain ⟨m0, m1⟩ := most_range x0 x1 b0 b1 g0
  obtain ⟨h0, h1⟩ := hit_range m0 m1 hs hs1
  have KP := Lib.hid (fun W => plus O (mostF x b g) s W hO (by omega) m0 (by omega) hs (by omega) (by omega))
  have HR := Lib.hid (fun k => sumA_range x0 x1 (hL.take k))
  have t1 : decide (x < 0) = false := by simp; omega
  have t2 : decide (1048576 < x) = false := by simp; omega
  clear hp hL
  generalize mostF x b g = m at *
  obtain ⟨P, hP⟩ : ∃ P, P = m * s := ⟨_, rfl⟩
  rw [← hP] at KP h0 h1 ⊢
  clear hP
  go_enter Try.func32, Try.ntmps32
  go_upto_region 3 with fail
  obtain ⟨X, hX⟩ : ∃ X, X = w.alloc (.cells #[.int .i64 O, .slice a L.length cap, .int .i64 b, .int .i64 g, .int .i64 s] 56) := ⟨_, rfl⟩
  rw [← hX] at HB ⊢
  clear hX
  obtain ⟨y0, y1, y2, y3, y4⟩ := HB.out.cells
  have k_y0 := cell_regrown y0
  have k_y2 := cell_regrown y2
  have k_y3 := cell_regrown y3
  have k_y4 := cell_regrown y4
  have cM := fun d os => Calls.regrown_of (w := X) (d := d) (os := os) (v := .int .i64 m) ((KM.out _).mono fun _ _ h => h.gives)
  have cP := fun d os => Calls.regrown_of (w := X) (d := d) (os := os) (v := .tuple #[.int .i64 (O + P), .bool true]) ((KP.out _).mono fun _ _ h => h.gives)
  refine wp_region_quiet_below (by kernel_rfl) (by kernel_rfl) ?_
  repeat (go_big_quiet_step (with_reducible first | exact cM _ _ | exact cP _ _))
  refine wpQuiet_nil ?_
  intro Y hw'
  obtain ⟨⟨dq, osq⟩, hw''⟩ := hw'
  have HB1 := Lib.hid (HB.out.tells (below_regrown X dq osq))
  dsimp only at hw''
  rw [← hw''] at HB1
  clear hw'' k_y0 k_y2 k_y3 k_y4 cM cP y0 y1 y2 y3 y4 HB KM KP
  obtain ⟨y0, y1, y2, y3, y4⟩ := HB1.out.cells
  go_wp2
  go_loopw [6, 37] (fun sum i W => NextRel O P b g s x L a cap w sum i W) (fun _ i _ => L.length - (intOf i).toNat)
  case atStart => exact ⟨0, by omega, rfl, by rw [List.take_zero, sumA_nil, Int.add_zero], HB1.out⟩
  case round =>
    obtain ⟨k, hk, rfl, rfl, hs⟩ := hrel
    have HS := Lib.hid hs
    clear hs
    by_cases hlt : k < L.length
    · have t1 : decide ((k : Int) < (L.length : Int)) = true := by simp; omega
      have hx : L[k]? = some L[k] := List.getElem?_eq_getElem hlt
      obtain ⟨gp, rfl, hg, c0, c1⟩ := (HP.out.tells HS.out.below).cells hx
      obtain ⟨p1, p2, p3, p4⟩ := HL.out _ (List.getElem_mem hlt)
      have HX := Lib.hid (sumA_next (w := x) hx)
      obtain ⟨r1, r2⟩ := HR.out k
      have hlen : ((L.take k).length : Int) ≤ 30 := by rw [List.length_take]; omega
      generalize ((L.take k).length : Int) = len at r2 hlen
      clear hx
      generalize L[k] = q at *
      obtain ⟨q1, q2⟩ := q
      simp only at c0 c1 p1 p2 p3 p4 HX
      obtain ⟨d1, d2⟩ := ceil_range x0 p3
      obtain ⟨z1, z2⟩ := term_range x0 x1 p1 p2 p3
      generalize sumA x (L.take k) = sv at *
      have KC := Lib.hid (fun W => ceil_small x q2 W x0 (by omega) p3 p4)
      generalize (x + q2 - 1) / q2 = cv at *
      have KQ := Lib.hid (fun W => plus (O + P + sv) cv q1 W (by omega) (by omega) d1 (by omega) (by omega) (by omega) (by omega))
      have HSX := Lib.hid (HS.out.tells (below_new wr (.cells #[.int .i64 q1, .int .i64 q2] 73)))
      go_wp2_with (fail)
      with_reducible refine (KC.out _).mono ?_
      rintro e w2 ⟨rfl, rfl⟩
      go_wp2_with (fail)
      with_reducible refine (KQ.out _).mono ?_
      rintro e w2 ⟨rfl, rfl⟩
      go_wp2
      go_roundw
      case rel => exact ⟨k + 1, by omega, by go_num, by rw [HX.out]; congr 1; omega, HSX.out⟩
      case measure => simp [intOf]; omega
    · have t1 : decide ((k : Int) < (L.length : Int)) = false := by simp; omega
      obtain rfl : k = L.length := by omega
      rw [List.take_length]
      generalize sumA x L = sv at *
      go_wp2
      go_ret2
      exact ⟨rfl, HS.out.below⟩
end Go.Proofs.Ytklnokhabomnfaa
