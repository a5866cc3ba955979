/- An entry is added, or refused. -/
import Derived.Test.YtlodfipiodlgdaaCa
namespace Go.Proofs.Ytlodfipiodlgdaa
open Go.RowKit

section
variable {S : Nat → Prop} {B p room : Nat} {now : Int} {w : World} {m : List Ky}
set_option maxHeartbeats 1000000 in
theorem add_arg (d : Ky) (h : Whl S B w p room now m) (hd : d.1 < now ∨ 1099511627776 < d.1) : Calls Try.prog 16 #[.pointer (some ⟨p, 0, none⟩), aggQ d] w (Tells (.int .i64 1) w) := by
  obtain ⟨d0, d1⟩ := d
  simp only [aggQ]
  have HM := Lib.hid (may_no hd)
  have HV := Lib.hid (h.more (below_new w (.cells #[.int .i64 d0, .int .i64 d1] 60)))
  obtain ⟨V, hV⟩ := HV.out.body
  have KM := Lib.hid (mayCome (p := p) d0 hV.now_)
  rw [HM.out] at KM
  clear hV h hd
  go_enter Try.func16, Try.ntmps16
  go_wp2_with (fail)
  with_reducible refine KM.out.mono ?_
  rintro e w' ⟨rfl, rfl⟩
  go_wp2
  go_ret
  exact ⟨rfl, below_new _ _⟩
set_option maxHeartbeats 1000000 in
theorem add_twice (d : Ky) (h : Whl S B w p room now m) (h1 : now ≤ d.1) (h2 : d.1 ≤ 1099511627776) (hid : idK d ∈ m.map idK) : Calls Try.prog 16 #[.pointer (some ⟨p, 0, none⟩), aggQ d] w (Tells (.int .i64 7) w) := by
  obtain ⟨d0, d1⟩ := d
  simp only [aggQ]
  have HM := Lib.hid (may_yes h1 h2)
  have HV := Lib.hid (h.more (below_new w (.cells #[.int .i64 d0, .int .i64 d1] 60)))
  obtain ⟨V, hV⟩ := HV.out.body
  have KM := Lib.hid (mayCome (p := p) d0 hV.now_)
  rw [HM.out] at KM
  have KF := Lib.hid (findAt d1 HV.out)
  have HID := Lib.hid hid
  clear hV h h1 h2 hid
  go_enter Try.func16, Try.ntmps16
  go_wp2_with (fail)
  with_reducible refine KM.out.mono ?_
  rintro e w' ⟨rfl, rfl⟩
  go_wp2_with (fail)
  with_reducible refine KF.out.mono ?_
  rintro e w1 ⟨hb, ho⟩
  have HB := Lib.hid (show Below w.heap.size w w1 from (below_new _ _).trans (hb.mono (by simp)))
  clear hb
  rcases ho with ⟨j, i, x, hj, hx, hi, rfl⟩ | ⟨hn, rfl⟩
  · clear hx hi
    go_wp2
    go_ret
    exact ⟨rfl, HB.out⟩
  · exact absurd HID.out (ids_none.1 hn)
set_option maxHeartbeats 1000000 in
theorem add_full (d : Ky) (h : Whl S B w p room now m) (h1 : now ≤ d.1) (h2 : d.1 ≤ 1099511627776) (hid : idK d ∉ m.map idK) (hf : m.length = room) : Calls Try.prog 16 #[.pointer (some ⟨p, 0, none⟩), aggQ d] w (Tells (.int .i64 3) w) := by
  obtain ⟨d0, d1⟩ := d
  simp only [aggQ]
  have HM := Lib.hid (may_yes h1 h2)
  have HV := Lib.hid (h.more (below_new w (.cells #[.int .i64 d0, .int .i64 d1] 60)))
  obtain ⟨V, hV⟩ := HV.out.body
  have KM := Lib.hid (mayCome (p := p) d0 hV.now_)
  rw [HM.out] at KM
  have KF := Lib.hid (findAt d1 HV.out)
  have HID := Lib.hid hid
  have HF := Lib.hid hf
  clear hV h h1 h2 hid hf
  go_enter Try.func16, Try.ntmps16
  go_wp2_with (fail)
  with_reducible refine KM.out.mono ?_
  rintro e w' ⟨rfl, rfl⟩
  go_wp2_with (fail)
  with_reducible refine KF.out.mono ?_
  rintro e w1 ⟨hb, ho⟩
  have HB := Lib.hid (show Below w.heap.size w w1 from (below_new _ _).trans (hb.mono (by simp)))
  have HW := Lib.hid (HV.out.more hb)
  clear hb
  rcases ho with ⟨j, i, x, hj, hx, hi, rfl⟩ | ⟨hn, rfl⟩
  · exact absurd (List.mem_map.2 ⟨x, (plc_mem.1 (List.mem_of_getElem? hx)).1, hi⟩) HID.out
  · clear hn
    have KL : Hid (∀ n, Calls Try.prog 19 #[.pointer (some ⟨p, 0, none⟩)] (w1.drewN n) (Says (.int .i64 (room : Int)) (w1.drewN n))) := fun n => by
      have := lenOf (HW.out.drewN n)
      rw [HF.out] at this; exact this
    obtain ⟨V1, hV1⟩ := HW.out.body
    have c0 := hV1.room_
    have hp1 := HW.out.lt
    clear hV1
    go_wp2_with (fail)
    go_quiet ((go_at_call 19; exact Calls.quiet_of_same ((KL.out _).mono fun _ _ h => ⟨h.1, h.2.symm⟩)))
    go_wp2
    go_ret
    exact ⟨rfl, below_drewN HB.out _⟩
end
end Go.Proofs.Ytlodfipiodlgdaa
