/- The five questions: a name, a priority that may not be had twice; the table that holds them. -/
import Derived.Test.YtklnokhabomnfaaIx
import Derived.Test.YtklnokhabomnfaaTm
namespace Go.Proofs.Ytklnokhabomnfaa
open Go.RowKit

set_option maxHeartbeats 1000000 in
theorem badName (t : Tk) (l : List Tk) (a : Option Addr) (cap : Nat) {w : World} (hl : l.length ≤ 1000) (ht : Tasks w a cap l) : Calls Try.prog 51 #[aggK t, .slice a l.length cap] w (Tells (bName l t) w) := by
  obtain ⟨n, tT, tD, tC, tA, tS, tc, tM, tK, tO, tP⟩ := t
  simp only [aggK]
  cases hn : nm n with
  | false =>
    have HN := Lib.hid (fun W => named n W)
    rw [hn] at HN
    have HV := Lib.hid (show bName l ⟨n, tT, tD, tC, tA, tS, tc, tM, tK, tO, tP⟩ = true by simp [bName, hn])
    clear hn ht
    go_enter Try.func51, Try.ntmps51
    go_wp2_with (fail)
    with_reducible refine (HN.out _).mono ?_
    rintro e w' ⟨rfl, rfl⟩
    go_wp2
    go_ret
    exact tells HV.out (below_new _ _)
  | true =>
    have HN := Lib.hid (fun W => named n W)
    rw [hn] at HN
    have HV := Lib.hid (show bName l ⟨n, tT, tD, tC, tA, tS, tc, tM, tK, tO, tP⟩ = (l.any fun x => decide (x.name = n)) by simp [bName, hn, hasName])
    have hmf : ∀ (fn : Fn) (first cap : Array Value) (w : World), (Instr.makeFunc fn first cap).run Try.prog w = .ok (.func fn first cap) w := fun _ _ _ _ => rfl
    have KC := Lib.hid (contains37 l n w.heap.size a cap (w := w.alloc (.cells #[.string n, .int .i64 tT, .int .i64 tD, .int .i64 tC, .int .i64 tA, .int .i64 tS, .int .i64 tc, .int .i64 tM, .int .i64 tK, .int .i64 tO, .int .i64 tP] 39)) hl (ht.below (Nat.le_refl _) (below_new _ _)) (by simp) ((Lies.made w 39 _).cell 0))
    clear hn ht
    go_enter Try.func51, Try.ntmps51
    go_wp2_with (fail)
    with_reducible refine (HN.out _).mono ?_
    rintro e w' ⟨rfl, rfl⟩
    go_wp2_with (fail)
    with_reducible refine KC.out.mono ?_
    rintro e w1 ⟨rfl, hb1⟩
    have H1 := Lib.hid hb1
    clear hb1
    go_wp2
    go_ret
    exact tells HV.out ((below_new _ _).trans (H1.out.mono (below_new _ _).size))

set_option maxHeartbeats 1000000 in
theorem badPrio (t : Tk) (l : List Tk) (a : Option Addr) (cap : Nat) {w : World} (hl : l.length ≤ 1000) (ht : Tasks w a cap l) : Calls Try.prog 55 #[aggK t, .slice a l.length cap] w (Tells (bPrio l t) w) := by
  obtain ⟨n, tT, tD, tC, tA, tS, tc, tM, tK, tO, tP⟩ := t
  simp only [aggK]
  cases hn : withinB tP 0 255 with
  | false =>
    have HN := Lib.hid (fun W => within tP 0 255 W hn)
    have HV := Lib.hid (show bPrio l ⟨n, tT, tD, tC, tA, tS, tc, tM, tK, tO, tP⟩ = true by
      have : prioIn ⟨n, tT, tD, tC, tA, tS, tc, tM, tK, tO, tP⟩ = false := hn
      simp [bPrio, this])
    clear hn ht
    go_enter Try.func55, Try.ntmps55
    go_wp2_with (fail)
    with_reducible refine (HN.out _).mono ?_
    rintro e w' ⟨rfl, rfl⟩
    go_wp2
    go_ret
    exact tells HV.out (below_new _ _)
  | true =>
    have HN := Lib.hid (fun W => within tP 0 255 W hn)
    have HV := Lib.hid (show bPrio l ⟨n, tT, tD, tC, tA, tS, tc, tM, tK, tO, tP⟩ = (l.any fun x => decide (x.Prio = tP)) by
      have : prioIn ⟨n, tT, tD, tC, tA, tS, tc, tM, tK, tO, tP⟩ = true := hn
      simp [bPrio, this, hasPrio])
    have hmf : ∀ (fn : Fn) (first cap : Array Value) (w : World), (Instr.makeFunc fn first cap).run Try.prog w = .ok (.func fn first cap) w := fun _ _ _ _ => rfl
    have KC := Lib.hid (contains38 l tP w.heap.size a cap (w := w.alloc (.cells #[.string n, .int .i64 tT, .int .i64 tD, .int .i64 tC, .int .i64 tA, .int .i64 tS, .int .i64 tc, .int .i64 tM, .int .i64 tK, .int .i64 tO, .int .i64 tP] 39)) hl (ht.below (Nat.le_refl _) (below_new _ _)) (by simp) ((Lies.made w 39 _).cell 10))
    clear hn ht
    go_enter Try.func55, Try.ntmps55
    go_wp2_with (fail)
    with_reducible refine (HN.out _).mono ?_
    rintro e w' ⟨rfl, rfl⟩
    go_wp2_with (fail)
    with_reducible refine KC.out.mono ?_
    rintro e w1 ⟨rfl, hb1⟩
    have H1 := Lib.hid hb1
    clear hb1
    go_wp2
    go_ret
    exact tells HV.out ((below_new _ _).trans (H1.out.mono (below_new _ _).size))

/-- The table's cells. -/
def tableC : Array Value := #[.int .i64 3, .func (.func 51) #[] #[], .int .i64 4, .func (.func 52) #[] #[], .int .i64 5, .func (.func 53) #[] #[], .int .i64 6, .func (.func 54) #[] #[], .int .i64 7, .func (.func 55) #[] #[]]
/-- A table that is new. -/
def Tabled (w : World) (e : Ending) (w' : World) : Prop := e = .returned (.slice (some ⟨w.heap.size, 0, none⟩) 5 5) ∧ w' = w.alloc (.cells tableC 66)
set_option maxHeartbeats 1000000 in
theorem questions (w : World) : Calls Try.prog 35 #[] w (Tabled w) := by
  go_enter Try.func35, Try.ntmps35
  go_wp2
  go_ret
  exact ⟨rfl, rfl⟩
end Go.Proofs.Ytklnokhabomnfaa
