/- Row, of a right pattern: a row of the call's own, of all jobs whether they must be. -/
import Derived.Test.YtfialaigkcgncaaOn
namespace Go.Proofs.Ytfialaigkcgncaa
open Go.RowKit Nu

/-- It answers a new row: of the first K jobs, which must be. -/
def HasRow (kind m : Int) (K : Nat) (w : World) (e : Ending) (w' : World) : Prop :=
  ∃ b, e = .returned (.slice (some ⟨b, 0, none⟩) K K) ∧ w.heap.size ≤ b ∧ Row w' b 4 K (fun i => .bool (must kind i m K)) ∧ Below w.heap.size w w'

theorem made_at {W : World} {n : Nat} (h : W.heap.size = n) (t : TypeId) (cs : Array Value) : Lies (W.alloc (.cells cs t)) n t cs := by subst h; exact Lies.made W t cs
theorem size_made {W : World} {n : Nat} (h : W.heap.size = n) (o : Obj) : (W.alloc o).heap.size = n + 1 := by simp [h]
/-- The world in which Do is called. -/
theorem laid (w : World) (kind m : Int) (K : Nat) : ∃ X, X = (((((w.alloc (.cells #[.int .i64 kind] 3)).alloc (.cells #[.int .i64 m] 3)).alloc (.cells #[.int .i64 (K : Int)] 3)).alloc (.cells #[.int .u32 0, .int .i32 0, .int .u32 0] 45)).alloc (.cells #[.slice none 0 0] 27)) ∧
    Fresh X (w.heap.size + 1 + 1 + 1) ∧ Vars X (w.heap.size + 1 + 1) (w.heap.size + 1 + 1 + 1 + 1) w.heap.size (w.heap.size + 1) kind m K (.slice none 0 0) ∧ Below w.heap.size w X ∧ X.heap.size = w.heap.size + 5 := by
  have s1 := size_made (W := w) rfl (.cells #[.int .i64 kind] 3)
  have s2 := size_made s1 (.cells #[.int .i64 m] 3)
  have s3 := size_made s2 (.cells #[.int .i64 (K : Int)] 3)
  have s4 := size_made s3 (.cells #[.int .u32 0, .int .i32 0, .int .u32 0] 45)
  have s5 := size_made s4 (.cells #[.slice none 0 0] 27)
  have b1 := below_new w (.cells #[.int .i64 kind] 3)
  have b2 := b1.alloc (by omega) (.cells #[.int .i64 m] 3)
  have b3 := b2.alloc (by omega) (.cells #[.int .i64 (K : Int)] 3)
  have b4 := b3.alloc (by omega) (.cells #[.int .u32 0, .int .i32 0, .int .u32 0] 45)
  have b5 := b4.alloc (by omega) (.cells #[.slice none 0 0] 27)
  refine ⟨_, rfl, (made_at s3 45 _).alloc _, ⟨((made_at s2 3 _).alloc _).alloc _, ((((made_at (W := w) rfl 3 _).alloc _).alloc _).alloc _).alloc _, (((made_at s1 3 _).alloc _).alloc _).alloc _, made_at s4 27 _, by omega, by omega, by omega⟩, b5, s5⟩

set_option maxRecDepth 100000 in
set_option maxHeartbeats 4000000 in
theorem row {kind m : Int} {K : Nat} (w : World) (hp : Pat kind m K) : Calls Try.prog 15 #[.int .i64 kind, .int .i64 m, .int .i64 (K : Int)] w (HasRow kind m K w) := by
  have KR := fun W => rightAny kind m K W
  rw [hp.right] at KR
  have KR := Lib.hid KR
  have HP := Lib.hid hp
  have hmf : ∀ (fn : Fn) (first cap : Array Value) (w : World), (Instr.makeFunc fn first cap).run Try.prog w = .ok (.func fn first cap) w := fun _ _ _ _ => rfl
  clear hp
  go_enter Try.func15, Try.ntmps15
  go_wp2_with (fail)
  with_reducible refine (KR.out _).mono ?_
  rintro e w2 ⟨rfl, rfl⟩
  go_wp2_with (fail)
  obtain ⟨X, hX, hf, hv, hb, hs⟩ := laid w kind m K
  rw [← hX]
  have HB := Lib.hid hb
  have HS := Lib.hid hs
  have KO := Lib.hid (once hf hv HP.out (by omega) (by omega) (by omega) (by omega))
  clear hX hf hv hb hs KR
  with_reducible refine KO.out.mono ?_
  rintro e w2 ⟨rfl, b, hlb, hr, hrow, ht⟩
  have x0 := hr.cell 0
  simp only [List.getElem?_toArray, List.getElem?_cons_zero] at x0
  have HR := Lib.hid hrow
  have HT := Lib.hid ht
  have HL := Lib.hid hlb
  clear hr hrow ht hlb KO
  go_wp2
  go_ret
  refine ⟨b, rfl, by have := HS.out; have := HL.out; omega, HR.out, HB.out.trans (HT.out.below (fun k hk => by omega) HB.out.size)⟩
end Go.Proofs.Ytfialaigkcgncaa
