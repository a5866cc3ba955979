/- The walk of the statement on how keys compare. -/
import Derived.Test.YtblecehmbmbjiaaAw
import Derived.Laws.StructEq
namespace Go.Proofs.Ytblecehmbmbjiaa
open Go.RowKit

def eqB (t u : Ky) : Bool := t.1 == u.1 && (t.2.1 == u.2.1 && (t.2.2.1 == u.2.2.1 && t.2.2.2 == u.2.2.2))
theorem eqB_iff (t u : Ky) : eqB t u = true ↔ t = u := by
  obtain ⟨a, b, c, d⟩ := t
  obtain ⟨a', b', c', d'⟩ := u
  simp [eqB]
set_option maxHeartbeats 1000000 in
theorem eqQ (t u : Ky) (w : World) : (Op.equalIn 10000 31 (aggQ t) (aggQ u)).run Try.prog w = .ok (eqB t u) w := by
  have u3 := Try.underlying3
  have a3 := Try.isAgg3
  have z3 := Try.sizeOf3
  have hS : Try.prog.underlying 31 = some (.struct (Try.prog.fieldsOf 31)) := by kernel_rfl
  unfold aggQ
  rw [show (10000 : Nat) = 9999 + 1 from rfl, run_equalIn_agg w 9999 31 _ _ hS (by kernel_rfl)]
  simp only [Program.fieldsOf, Try.underlying31]
  go_simp
  unfold eqB
  repeat' split
  all_goals simp [*]

namespace Compares
set_option maxRecDepth 100000 in
set_option maxHeartbeats 4000000 in
theorem core (a b c : Ky) (w : World) : Calls Try.prog 5 #[aggQ a, aggQ b, aggQ c] w (Woke w) := by
  have HBK := Lib.hid (cmp_back a b)
  have HSM := cmp_small a b
  have HZ := Lib.hid (show (cmpK a b == 0) = eqB a b by
    by_cases h : a = b
    · rw [cmp_zero.2 h, (eqB_iff a b).2 h]; rfl
    · rw [Bool.eq_false_iff.2 (fun e => h ((eqB_iff a b).1 e))]
      exact beq_eq_false_iff_ne.2 (fun e => h (cmp_zero.1 e)))
  have HTR : Hid (¬ 0 < cmpK a b → ¬ 0 < cmpK b c → cmpK a c ≤ 0) := ( fun h1 h2 => by
    have e1 : ¬ Lt b a := fun h => by
      rcases cmp_cases a b with ⟨h', e⟩ | ⟨h', e⟩ | ⟨h', e⟩
      · exact h.asymm h'
      · omega
      · exact h.ne h'.symm
    have e2 : ¬ Lt c b := fun h => by
      rcases cmp_cases b c with ⟨h', e⟩ | ⟨h', e⟩ | ⟨h', e⟩
      · exact h.asymm h'
      · omega
      · exact h.ne h'.symm
    have e3 := le_trans e1 e2
    rcases cmp_cases a c with ⟨h', e⟩ | ⟨h', e⟩ | ⟨h', e⟩
    · omega
    · exact absurd h' e3
    · omega)
  have hq := fun W => eqQ a b W
  have K1 := Lib.hid (fun W => compare_below a b W)
  have K2 := Lib.hid (fun W => compare_below b c W)
  have K3 := Lib.hid (fun W => refCompare a b W)
  have K4 := Lib.hid (fun W => compare_below b a W)
  have K5 := Lib.hid (fun W => compare_below a c W)
  rw [HBK.out] at K4
  generalize cmpK a b = r at HSM HZ HTR K1 K3 K4
  generalize cmpK b c = s at HTR K2
  generalize cmpK a c = t at HTR K5
  generalize eqB a b = q at HZ hq
  obtain ⟨a0, a1, a2, a3⟩ := a
  obtain ⟨b0, b1, b2, b3⟩ := b
  obtain ⟨c0, c1, c2, c3⟩ := c
  simp only [aggQ] at K1 K2 K3 K4 K5 hq ⊢
  obtain ⟨V, hV⟩ : ∃ V, V = ((w.alloc (.cells #[.int .i64 a0, .int .i64 a1, .int .i64 a2, .int .i64 a3] 31)).alloc (.cells #[.int .i64 b0, .int .i64 b1, .int .i64 b2, .int .i64 b3] 31)).alloc (.cells #[.int .i64 c0, .int .i64 c1, .int .i64 c2, .int .i64 c3] 31) := ⟨_, rfl⟩
  have HB : Hid (Below w.heap.size w V) := by rw [hV]; exact ((below_new _ _).alloc (by simp) _).alloc (by simp; omega) _
  have LA := Lib.hid (show Lies V w.heap.size 31 #[.int .i64 a0, .int .i64 a1, .int .i64 a2, .int .i64 a3] by
    rw [hV]; exact ((Lies.made _ _ _).alloc _).alloc _)
  have LB := Lib.hid (show Lies V (w.heap.size + 1) 31 #[.int .i64 b0, .int .i64 b1, .int .i64 b2, .int .i64 b3] by
    rw [hV]
    refine Lies.alloc ?_ _
    have := Lies.made (w.alloc (.cells #[.int .i64 a0, .int .i64 a1, .int .i64 a2, .int .i64 a3] 31)) 31 #[.int .i64 b0, .int .i64 b1, .int .i64 b2, .int .i64 b3]
    simpa using this)
  have LC := Lib.hid (show Lies V (w.heap.size + 1 + 1) 31 #[.int .i64 c0, .int .i64 c1, .int .i64 c2, .int .i64 c3] by
    rw [hV]
    have := Lies.made ((w.alloc (.cells #[.int .i64 a0, .int .i64 a1, .int .i64 a2, .int .i64 a3] 31)).alloc (.cells #[.int .i64 b0, .int .i64 b1, .int .i64 b2, .int .i64 b3] 31)) 31 #[.int .i64 c0, .int .i64 c1, .int .i64 c2, .int .i64 c3]
    simpa using this)
  have HCE : Hid (∀ W, Below V.heap.size V W → (W.cell? ⟨w.heap.size, 0, none⟩ = some (.int .i64 a0) ∧ W.cell? ⟨w.heap.size, 1, none⟩ = some (.int .i64 a1) ∧ W.cell? ⟨w.heap.size, 2, none⟩ = some (.int .i64 a2) ∧ W.cell? ⟨w.heap.size, 3, none⟩ = some (.int .i64 a3)) ∧ (W.cell? ⟨w.heap.size + 1, 0, none⟩ = some (.int .i64 b0) ∧ W.cell? ⟨w.heap.size + 1, 1, none⟩ = some (.int .i64 b1) ∧ W.cell? ⟨w.heap.size + 1, 2, none⟩ = some (.int .i64 b2) ∧ W.cell? ⟨w.heap.size + 1, 3, none⟩ = some (.int .i64 b3)) ∧ (W.cell? ⟨w.heap.size + 1 + 1, 0, none⟩ = some (.int .i64 c0) ∧ W.cell? ⟨w.heap.size + 1 + 1, 1, none⟩ = some (.int .i64 c1) ∧ W.cell? ⟨w.heap.size + 1 + 1, 2, none⟩ = some (.int .i64 c2) ∧ W.cell? ⟨w.heap.size + 1 + 1, 3, none⟩ = some (.int .i64 c3))) := fun W hW => by
    have A := LA.out.below hW LA.out.lt
    have B := LB.out.below hW LB.out.lt
    have C := LC.out.below hW LC.out.lt
    exact ⟨⟨A.cell 0, A.cell 1, A.cell 2, A.cell 3⟩, ⟨B.cell 0, B.cell 1, B.cell 2, B.cell 3⟩, ⟨C.cell 0, C.cell 1, C.cell 2, C.cell 3⟩⟩
  have HVE := Lib.hid hV
  clear hV LA LB LC HBK
  go_enter Try.func5, Try.ntmps5
  go_wp2_with (fail)
  rw [← HVE.out]
  refine (awake _).mono ?_
  rintro e w1 ⟨rfl, hb1⟩
  have B1 := Lib.hid hb1
  clear hb1
  obtain ⟨⟨x0, x1, x2, x3⟩, ⟨y0, y1, y2, y3⟩, ⟨z0, z1, z2, z3⟩⟩ := HCE.out _ B1.out
  go_wp2_with (fail)
  with_reducible refine (K1.out _).mono ?_
  rintro e w2 ⟨rfl, hb2⟩
  have B2 := Lib.hid (B1.out.trans (hb2.mono B1.out.size))
  clear hb2 x0 x1 x2 x3 y0 y1 y2 y3 z0 z1 z2 z3
  obtain ⟨⟨x0, x1, x2, x3⟩, ⟨y0, y1, y2, y3⟩, ⟨z0, z1, z2, z3⟩⟩ := HCE.out _ B2.out
  go_wp2_with (fail)
  with_reducible refine (K2.out _).mono ?_
  rintro e w3 ⟨rfl, hb3⟩
  have B3 := Lib.hid (B2.out.trans (hb3.mono B2.out.size))
  clear hb3 x0 x1 x2 x3 y0 y1 y2 y3 z0 z1 z2 z3
  obtain ⟨⟨x0, x1, x2, x3⟩, ⟨y0, y1, y2, y3⟩, ⟨z0, z1, z2, z3⟩⟩ := HCE.out _ B3.out
  go_wp2_with (fail)
  with_reducible refine (K3.out _).mono ?_
  rintro e w4 ⟨rfl, hb4⟩
  have B4 := Lib.hid (B3.out.trans (hb4.mono B3.out.size))
  clear hb4 x0 x1 x2 x3 y0 y1 y2 y3 z0 z1 z2 z3
  obtain ⟨⟨x0, x1, x2, x3⟩, ⟨y0, y1, y2, y3⟩, ⟨z0, z1, z2, z3⟩⟩ := HCE.out _ B4.out
  go_wp2_with (fail)
  with_reducible refine (K4.out _).mono ?_
  rintro e w5 ⟨rfl, hb5⟩
  have B5 := Lib.hid (B4.out.trans (hb5.mono B4.out.size))
  clear hb5 x0 x1 x2 x3 y0 y1 y2 y3 z0 z1 z2 z3
  obtain ⟨⟨x0, x1, x2, x3⟩, ⟨y0, y1, y2, y3⟩, ⟨z0, z1, z2, z3⟩⟩ := HCE.out _ B5.out
  have g1 := HSM.1
  have g2 := HSM.2
  have hz := HZ.out
  by_cases h1 : 0 < r
  · have t1 : decide (0 < r) = true := by simp; omega
    go_wp2
    go_ret
    exact ⟨rfl, HB.out.trans (B5.out.mono HB.out.size)⟩
  · have t1 : decide (0 < r) = false := by simp; omega
    by_cases h2 : 0 < s
    · have t2 : decide (0 < s) = true := by simp; omega
      go_wp2
      go_ret
      exact ⟨rfl, HB.out.trans (B5.out.mono HB.out.size)⟩
    · have t2 : decide (0 < s) = false := by simp; omega
      have t3 : decide (t ≤ 0) = true := decide_eq_true (HTR.out (by omega) (by omega))
      clear h1 h2
      go_wp2_with (fail)
      with_reducible refine (K5.out _).mono ?_
      rintro e w6 ⟨rfl, hb6⟩
      have B6 := Lib.hid (B5.out.trans (hb6.mono B5.out.size))
      clear hb6 x0 x1 x2 x3 y0 y1 y2 y3 z0 z1 z2 z3
      go_wp2
      go_ret
      exact ⟨rfl, HB.out.trans (B6.out.mono HB.out.size)⟩
end Compares
end Go.Proofs.Ytblecehmbmbjiaa
