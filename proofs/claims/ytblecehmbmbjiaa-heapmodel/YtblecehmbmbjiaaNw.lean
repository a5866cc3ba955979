/- A new heap. -/
import Derived.Test.YtblecehmbmbjiaaPu
import Derived.Laws.Tables
namespace Go.Proofs.Ytblecehmbmbjiaa
open Go.RowKit
set_option maxRecDepth 100000

theorem zero_is : ((Try.prog.info? 52).bind (·.zero)).map (fun z => match z with | .agg cs => (cs.size, cs[1]?) | _ => (0, none)) = some (4098, some (.int .i64 0)) := by kernel_rfl
/-- A heap's cells, all 0. -/
theorem zero_cells : ∃ cs : Array Value, (∀ w, (zeroValue 52).run Try.prog w = .ok (.agg cs) w) ∧ cs.size = 4098 ∧ cs[1]? = some (.int .i64 0) := by
  obtain ⟨z, h1, h2⟩ := Option.map_eq_some_iff.1 zero_is
  obtain ⟨i, hi, hz⟩ := Option.bind_eq_some_iff.1 h1
  cases z with
  | agg cs =>
    simp only [Prod.mk.injEq] at h2
    exact ⟨cs, fun w => by simp [zeroValue, typeInfo, hi, hz], h2.1, h2.2⟩
  | _ => simp at h2

set_option maxHeartbeats 400000 in
theorem new_no (k : Int) (w : World) (h : k < 1 ∨ 1024 < k) :
    Calls Try.prog 10 #[.int .i64 k] w (Says (.tuple #[.pointer none, .int .i64 1]) w) := by
  rcases h with h | h
  · go_enter Try.func10, Try.ntmps10
    go_wp2
    go_ret2
    exact ⟨rfl, rfl⟩
  · have h' : ¬ k < 1 := by omega
    go_enter Try.func10, Try.ntmps10
    go_wp2
    go_ret2
    exact ⟨rfl, rfl⟩
/-- A new heap: its block is the next one. -/
def News (n : Nat) (w : World) (e : Ending) (w' : World) : Prop :=
  e = .returned (.tuple #[.pointer (some ⟨w.heap.size, 0, none⟩), .int .i64 0]) ∧ Heap w' w.heap.size n [] ∧ Below w.heap.size w w'
theorem heap_new {cs : Array Value} {n : Nat} (w : World) (h1 : cs.size = 4098) (h2 : cs[0]? = some (.int .i64 (n : Int))) (h3 : cs[1]? = some (.int .i64 0)) (hn : 1 ≤ n) (hm : n ≤ 1024) : Heap (w.alloc (.cells cs 52)) w.heap.size n [] :=
  ⟨hn, hm, Nat.zero_le _, Good.nil, [], List.Perm.refl _, ⟨cs, Lies.made _ _ _, h1, h2, h3, Nat.zero_le _, fun i k hk => by simp at hk⟩, fun j _ hj => by simp at hj⟩

set_option maxHeartbeats 400000 in
theorem newHeap (n : Nat) (w : World) (h1 : 1 ≤ n) (h2 : n ≤ 1024) : Calls Try.prog 10 #[.int .i64 (n : Int)] w (News n w) := by
  have t1 : decide ((n : Int) < 1) = false := by simp; omega
  have t2 : decide ((1024 : Int) < (n : Int)) = false := by simp; omega
  obtain ⟨cs, hb, c1, c2⟩ := zero_cells
  have HI := Lib.hid (heap_new (cs := cs.setIfInBounds 0 (.int .i64 (n : Int))) w (by simpa using c1) (by rw [Array.getElem?_setIfInBounds, if_pos rfl, if_pos (by omega)]) (by rw [Array.getElem?_setIfInBounds, if_neg (by omega)]; exact c2) h1 h2)
  have hne : ¬ cs = #[] := fun e => by rw [e] at c1; simp at c1
  clear c1 c2
  go_enter Try.func10, Try.ntmps10
  go_wp2
  go_ret2
  exact ⟨rfl, HI.out, below_new _ _⟩
end Go.Proofs.Ytblecehmbmbjiaa
