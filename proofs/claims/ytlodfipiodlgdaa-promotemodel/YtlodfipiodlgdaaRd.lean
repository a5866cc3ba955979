/- What is read of a wheel: whether a time may come, its time, how many entries there are. -/
import Derived.Test.YtlodfipiodlgdaaWh
namespace Go.Proofs.Ytlodfipiodlgdaa
open Go.RowKit

theorem arrInfo : (Try.prog.info? 53).map (·.size) = some 64 := by kernel_rfl
section
variable {S : Nat → Prop} {B p room : Nat} {now : Int} {w : World} {m : List Ky} {V : Nat → Value}
theorem Body.range (h : Body S B w p room now m V) : w.rangeAt p 2 ((List.range 64).map V) := by
  intro j u hu
  rw [List.getElem?_map] at hu
  obtain ⟨i, hi, rfl⟩ := Option.map_eq_some_iff.1 hu
  have hj := (List.getElem?_eq_some_iff.1 hi).1
  rw [List.length_range] at hj
  rw [List.getElem?_range hj] at hi
  cases hi
  exact h.place hj
/-- All places at once. -/
theorem Body.load (h : Body S B w p room now m V) : ∃ A : Array Value, ((Instr.loadAt 53 (.pointer (some ⟨p, 2, none⟩))).run Try.prog w = .ok (.agg A) w) ∧ (∀ j, j < 64 → A[j]? = some (V j)) := by
  refine ⟨_, run_loadAt_mid w p 2 53 _ _ h.range Try.underlying53 rfl (by rw [arrInfo]; simp), fun j hj => ?_⟩
  simp [hj]
end
theorem wpList_load_places {p : Nat} {A : Array Value} {ops : Array Oper} {rest : List Oper} {op : Oper} {a : Act} {w : World} {Q : Exit → Act → World → Prop} (hgd : op.guard = none) (x : Operand) (ho : op.op = .load 53 x)
    (hl : (Instr.loadAt 53 (.pointer (some ⟨p, 2, none⟩))).run Try.prog w = .ok (.agg A) w) (hx : a.eval x = .pointer (some ⟨p, 2, none⟩)) (h : wpList Try.prog ops Q rest (a.put op.dst (.agg A)) w) : wpList Try.prog ops Q (op :: rest) a w := by
  refine wpList_plain hgd fun _ hK => ?_
  unfold Oper.wp execOp
  simp only [ho, hx, Sem.run_bind, hl, Sem.run_pure, Result.andThen_ok]
  exact hK _ _ h
theorem run_place {A : Array Value} {j : Nat} {v : Value} (hj : j < 64) (h : A[j]? = some v) (W : World) : (Instr.index 53 (.agg A) (.int .i64 (j : Int))).run Try.prog W = .ok v W := by
  simp [Instr.index, run_underlying Try.underlying53, asIntOf, part, Try.sizeOf52, Try.isAgg52, h]
  omega

def mayB (now t : Int) : Bool := decide (now ≤ t) && decide (t ≤ 1099511627776)
theorem may_yes {now t : Int} (h1 : now ≤ t) (h2 : t ≤ 1099511627776) : mayB now t = true := by simp [mayB, h1, h2]
theorem may_no {now t : Int} (h : t < now ∨ 1099511627776 < t) : mayB now t = false := by
  rcases h with h | h
  · have : ¬ now ≤ t := by omega
    simp [mayB, this]
  · have : ¬ t ≤ 1099511627776 := by omega
    simp [mayB, this]
section
variable {S : Nat → Prop} {B p room : Nat} {now : Int} {w : World} {m : List Ky}
set_option maxHeartbeats 400000 in
theorem mayCome (t : Int) (hc : w.cell? ⟨p, 1, none⟩ = some (.int .i64 now)) : Calls Try.prog 21 #[.pointer (some ⟨p, 0, none⟩), .int .i64 t] w (Says (.bool (mayB now t)) w) := by
  by_cases h1 : now ≤ t
  · have t1 : decide (now ≤ t) = true := by simpa using h1
    by_cases h2 : t ≤ 1099511627776
    · have HM := Lib.hid (may_yes h1 h2)
      rw [HM.out]
      have t2 : decide (t ≤ 1099511627776) = true := by simpa using h2
      clear h1 h2
      go_enter Try.func21, Try.ntmps21
      go_wp2
      go_ret
      exact ⟨rfl, rfl⟩
    · have HM := Lib.hid (may_no (now := now) (t := t) (.inr (by omega)))
      rw [HM.out]
      have t2 : decide (t ≤ 1099511627776) = false := by simpa using h2
      clear h1 h2
      go_enter Try.func21, Try.ntmps21
      go_wp2
      go_ret
      exact ⟨rfl, rfl⟩
  · have HM := Lib.hid (may_no (now := now) (t := t) (.inl (by omega)))
    rw [HM.out]
    have t1 : decide (now ≤ t) = false := by simpa using h1
    clear h1
    go_enter Try.func21, Try.ntmps21
    go_wp2
    go_ret
    exact ⟨rfl, rfl⟩
def LenRel (m : List Ky) (n i : Value) : Prop := ∃ k : Nat, k ≤ 64 ∧ i = .int .i64 (k : Int) ∧ n = .int .i64 ((upto m k).length : Int)
set_option maxHeartbeats 1000000 in
theorem lenOf (h : Whl S B w p room now m) : Calls Try.prog 19 #[.pointer (some ⟨p, 0, none⟩)] w (Says (.int .i64 (m.length : Int)) w) := by
  obtain ⟨V, hV⟩ := h.body
  obtain ⟨A, hl, hA⟩ := hV.load
  have HA := Lib.hid hA
  have HV := Lib.hid hV
  have HL := Lib.hid hl
  clear hl
  have hm := h.len
  have hr := h.r2
  clear h hV hA
  go_enter Try.func19, Try.ntmps19
  go_wp2_with (refine wpList_load_places rfl (.tmp 8) rfl HL.out rfl ?_)
  go_loop [3, 10] (fun n i => LenRel m n i) (fun _ i => 64 - (intOf i).toNat)
  case atStart => exact ⟨0, by omega, rfl, by rw [upto_zero]; rfl⟩
  case round =>
    obtain ⟨k, hk, rfl, rfl⟩ := hrel
    have u1 := upto_le m k
    have u2 := plc_len m k
    by_cases hlt : k < 64
    · have t1 : decide ((k : Int) < 64) = true := by simp; omega
      obtain ⟨a, c, hv, hc, -⟩ := HV.out.row hlt
      have hx := run_place hlt (HA.out k hlt) w
      rw [hv] at hx
      have HU := Lib.hid (upto_len k m)
      clear hv hc
      go_wp2
      go_round
      case rel => exact ⟨k + 1, by omega, by go_num, by rw [HU.out]; go_num⟩
      case measure => simp [intOf]; omega
    · have t1 : decide ((k : Int) < 64) = false := by simp; omega
      have t1' : decide (k < 64) = false := by simp; omega
      have HK := Lib.hid (show k = 64 by omega)
      go_wp2
      go_ret
      exact ⟨ret_int (by rw [HK.out, upto_all]), rfl⟩
end
end Go.Proofs.Ytlodfipiodlgdaa
