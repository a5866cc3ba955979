/- A text that is copied is the same text; of what was there nothing has turned: the library's contract of its own call, at this program's numbers. -/
import Derived.Test.YtkldpbehjbecnaaMem
import Derived.Shelf.LaysM
import Derived.Shelf.Strconv.Clone
namespace Go.Proofs.Ytkldpbehjbecnaa
open Go.RowKit Go.Shelf

/-- It answers v; new memory was made, nothing else. -/
def Makes (v : Value) (w : World) (e : Ending) (w' : World) : Prop := e = .returned v ∧ Below w.heap.size w w'

def numbers : Ren := ⟨fun | 316 => 34 | n => n, fun | 37 => 53 | 127 => 54 | n => n, fun | n => n⟩
theorem laid : LaysM.n316 Try.prog numbers where
  mixed := by kernel_rfl
  f316 := Try.func34.trans (congrArg some (by kernel_rfl))
  t0 := Try.underlying0
  a0 := Try.isAgg0
  z0 := Try.sizeOf0
  v0 := Try.zeroValue0
  i0 := by kernel_rfl
  t3 := Try.underlying3
  a3 := Try.isAgg3
  z3 := Try.sizeOf3
  v3 := Try.zeroValue3
  i3 := by kernel_rfl
  t4 := Try.underlying4
  a4 := Try.isAgg4
  z4 := Try.sizeOf4
  v4 := Try.zeroValue4
  i4 := by kernel_rfl
  t9 := Try.underlying9
  a9 := Try.isAgg9
  z9 := Try.sizeOf9
  v9 := Try.zeroValue9
  i9 := by kernel_rfl
  t37 := Try.underlying53
  a37 := Try.isAgg53
  z37 := Try.sizeOf53
  v37 := Try.zeroValue53
  i37 := by kernel_rfl
  t127 := Try.underlying54
  a127 := Try.isAgg54
  z127 := Try.sizeOf54
  v127 := Try.zeroValue54
  i127 := by kernel_rfl
  t5 := Try.underlying5
  a5 := Try.isAgg5
  z5 := Try.sizeOf5
  v5 := Try.zeroValue5
  i5 := by kernel_rfl
theorem clone1 (s : ByteArray) (w : World) (h : s.size ≤ 1000) : Calls Try.prog 34 #[.string s] w (Makes (.string s) w) :=
  Any.stringslite_Clone laid s w (by omega)

set_option maxHeartbeats 400000 in
theorem clone (s : ByteArray) (w : World) (h : s.size ≤ 1000) : Calls Try.prog 26 #[.string s] w (Makes (.string s) w) := by
  go_enter Try.func26, Try.ntmps26
  go_wp2_with (fail)
  with_reducible refine (clone1 s _ h).mono ?_
  rintro e w' ⟨rfl, hb⟩
  go_wp2
  go_ret
  exact ⟨rfl, hb⟩
end Go.Proofs.Ytkldpbehjbecnaa
