/- Sets of one task, of two: why they aren't right. -/
import Derived.Test.YtkldpbehjbecnaaWy
import Derived.Test.YtkldpbehjbecnaaLt
import Derived.Test.YtkldpbehjbecnaaPu
namespace Go.Proofs.Ytkldpbehjbecnaa
open Go.RowKit

theorem why1 (b : Int) (g : Nat) (n : ByteArray) (t1 t2 t3 t4 t5 t6 t7 t8 t9 t10 : Int) {W : World}
    (h : Lies W g 32 #[.string n, .int .i64 t1, .int .i64 t2, .int .i64 t3, .int .i64 t4, .int .i64 t5, .int .i64 t6, .int .i64 t7, .int .i64 t8, .int .i64 t9, .int .i64 t10]) :
    Calls Try.prog 11 #[.agg #[.int .i64 b, .slice (some ⟨g, 0, none⟩) 1 1]] W (Whys (whyF b [⟨n, t1, t2, t3, t4, t5, t6, t7, t8, t9, t10⟩]) W) :=
  why b [⟨n, t1, t2, t3, t4, t5, t6, t7, t8, t9, t10⟩] (some ⟨g, 0, none⟩) 1 (by unfold maxLen; simp) (tasks_row h rfl (by simp))
theorem right1 (b : Int) (g : Nat) (n : ByteArray) (t1 t2 t3 t4 t5 t6 t7 t8 t9 t10 : Int) {W : World}
    (h : Lies W g 32 #[.string n, .int .i64 t1, .int .i64 t2, .int .i64 t3, .int .i64 t4, .int .i64 t5, .int .i64 t6, .int .i64 t7, .int .i64 t8, .int .i64 t9, .int .i64 t10]) :
    Calls Try.prog 13 #[.agg #[.int .i64 b, .slice (some ⟨g, 0, none⟩) 1 1]] W (Tells ((whyF b [⟨n, t1, t2, t3, t4, t5, t6, t7, t8, t9, t10⟩]).1 == 0) W) :=
  right b [⟨n, t1, t2, t3, t4, t5, t6, t7, t8, t9, t10⟩] (some ⟨g, 0, none⟩) 1 (by unfold maxLen; simp) (tasks_row h rfl (by simp))
theorem why2 (b : Int) (g : Nat) (n : ByteArray) (t1 t2 t3 t4 t5 t6 t7 t8 t9 t10 : Int) (m : ByteArray) (u1 u2 u3 u4 u5 u6 u7 u8 u9 u10 : Int) {W : World}
    (h : Lies W g 32 #[.string n, .int .i64 t1, .int .i64 t2, .int .i64 t3, .int .i64 t4, .int .i64 t5, .int .i64 t6, .int .i64 t7, .int .i64 t8, .int .i64 t9, .int .i64 t10, .string m, .int .i64 u1, .int .i64 u2, .int .i64 u3, .int .i64 u4, .int .i64 u5, .int .i64 u6, .int .i64 u7, .int .i64 u8, .int .i64 u9, .int .i64 u10]) :
    Calls Try.prog 11 #[.agg #[.int .i64 b, .slice (some ⟨g, 0, none⟩) 2 2]] W (Whys (whyF b [⟨n, t1, t2, t3, t4, t5, t6, t7, t8, t9, t10⟩, ⟨m, u1, u2, u3, u4, u5, u6, u7, u8, u9, u10⟩]) W) :=
  why b [⟨n, t1, t2, t3, t4, t5, t6, t7, t8, t9, t10⟩, ⟨m, u1, u2, u3, u4, u5, u6, u7, u8, u9, u10⟩] (some ⟨g, 0, none⟩) 2 (by unfold maxLen; simp) (tasks_row h rfl (by simp))

/-- It answers z; new memory was made, nothing else. -/
def Counts (z : Int) (w : World) (e : Ending) (w' : World) : Prop := e = .returned (.int .i64 z) ∧ Below w.heap.size w w'
set_option maxHeartbeats 2000000 in
/-- Why a set of this task alone isn't right. -/
theorem oneTask (n : ByteArray) (t1 t2 t3 t4 t5 t6 t7 t8 t9 t10 : Int) (z : Int) (w : World) (hz : bad1 [] ⟨n, t1, t2, t3, t4, t5, t6, t7, t8, t9, t10⟩ = z) :
    Calls Try.prog 19 #[.agg #[.string n, .int .i64 t1, .int .i64 t2, .int .i64 t3, .int .i64 t4, .int .i64 t5, .int .i64 t6, .int .i64 t7, .int .i64 t8, .int .i64 t9, .int .i64 t10]] w (Counts z w) := by
  have HZ : Hid ((whyF 1 [⟨n, t1, t2, t3, t4, t5, t6, t7, t8, t9, t10⟩]).1 = z) := (whyF_one (by omega) _).trans hz
  obtain ⟨V, hV⟩ : ∃ V, V = (w.alloc (.cells #[.string n, .int .i64 t1, .int .i64 t2, .int .i64 t3, .int .i64 t4, .int .i64 t5, .int .i64 t6, .int .i64 t7, .int .i64 t8, .int .i64 t9, .int .i64 t10] 32)).alloc (.cells #[.string n, .int .i64 t1, .int .i64 t2, .int .i64 t3, .int .i64 t4, .int .i64 t5, .int .i64 t6, .int .i64 t7, .int .i64 t8, .int .i64 t9, .int .i64 t10] 32) := ⟨_, rfl⟩
  have HB : Hid (Below w.heap.size w V) := by rw [hV]; exact (below_new _ _).alloc (by simp) _
  have HL := Lib.hid (show Lies V (w.heap.size + 1) 32 #[.string n, .int .i64 t1, .int .i64 t2, .int .i64 t3, .int .i64 t4, .int .i64 t5, .int .i64 t6, .int .i64 t7, .int .i64 t8, .int .i64 t9, .int .i64 t10] by
    rw [hV]
    have := Lies.made (w.alloc (.cells #[.string n, .int .i64 t1, .int .i64 t2, .int .i64 t3, .int .i64 t4, .int .i64 t5, .int .i64 t6, .int .i64 t7, .int .i64 t8, .int .i64 t9, .int .i64 t10] 32)) 32 #[.string n, .int .i64 t1, .int .i64 t2, .int .i64 t3, .int .i64 t4, .int .i64 t5, .int .i64 t6, .int .i64 t7, .int .i64 t8, .int .i64 t9, .int .i64 t10]
    simpa using this)
  have KC := Lib.hid (why1 1 (w.heap.size + 1) n t1 t2 t3 t4 t5 t6 t7 t8 t9 t10 HL.out)
  generalize whyF 1 [⟨n, t1, t2, t3, t4, t5, t6, t7, t8, t9, t10⟩] = p at HZ KC
  have HVE := Lib.hid hV
  clear hV hz
  go_enter Try.func19, Try.ntmps19
  go_wp2_with (fail)
  rw [← HVE.out]
  with_reducible refine KC.out.mono ?_
  rintro e w1 ⟨rfl, hb1⟩
  have H1 := Lib.hid (HB.out.trans (hb1.mono HB.out.size))
  clear hb1
  go_wp2
  go_ret
  exact ⟨by rw [← HZ.out]; rfl, H1.out⟩
end Go.Proofs.Ytkldpbehjbecnaa
