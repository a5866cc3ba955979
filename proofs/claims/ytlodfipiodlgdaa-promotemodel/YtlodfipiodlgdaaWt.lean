/- A job waits, or is refused. -/
import Derived.Test.YtlodfipiodlgdaaOf
namespace Go.Proofs.Ytlodfipiodlgdaa
open Go.RowKit

/-- A job's promotion may still come. -/
abbrev okT (now rel d r : Int) : Prop := 1 ≤ r ∧ r ≤ d ∧ 0 ≤ rel ∧ now ≤ rel + (d - r) ∧ rel + (d - r) ≤ 1099511627776
section
variable {S : Nat → Prop} {B p room : Nat} {now : Int} {w : World} {m : List Ky}
set_option maxHeartbeats 1000000 in
theorem wait_arg (id rel d r : Int) (h : Whl S B w p room now m) (hd : d ≤ 9223372036854775807) (hno : ¬ okT now rel d r) :
    Calls Try.prog 9 #[.pointer (some ⟨p, 0, none⟩), .int .i64 id, .int .i64 rel, .int .i64 d, .int .i64 r] w (Tells (.tuple #[.int .i64 0, .int .i64 1]) w) := by
  unfold okT at hno
  have hp := h.lt
  have n0 := h.n0
  by_cases h1 : r < 1 ∨ d < r
  · have KO := Lib.hid (offset_no d r w h1)
    clear h h1 hno
    go_enter Try.func9, Try.ntmps9
    go_wp2_with (fail)
    with_reducible refine KO.out.mono ?_
    rintro e w1 ⟨rfl, rfl⟩
    go_wp2
    go_ret2
    exact ⟨rfl, Below.refl _ _⟩
  · have KO := Lib.hid (offset_yes d r w (by omega) (by omega) hd)
    by_cases h2 : rel < 0 ∨ 4611686018427387904 < rel + (d - r)
    · have KA := Lib.hid (add_over rel (d - r) w (by omega))
      clear h h1 h2 hno
      go_enter Try.func9, Try.ntmps9
      go_wp2_with (fail)
      with_reducible refine KO.out.mono ?_
      rintro e w1 ⟨rfl, rfl⟩
      go_wp2_with (fail)
      with_reducible refine KA.out.mono ?_
      rintro e w1 ⟨rfl, rfl⟩
      go_wp2
      go_ret2
      exact ⟨rfl, Below.refl _ _⟩
    · have KA := Lib.hid (add_time rel (d - r) w (by omega) (by omega) (by omega))
      have KW := add_arg (rel + (d - r), id) h (by show _ < _ ∨ _ < _; simp only; omega)
      simp only [aggQ] at KW
      have KW := Lib.hid KW
      clear h h1 h2 hno
      go_enter Try.func9, Try.ntmps9
      go_wp2_with (fail)
      with_reducible refine KO.out.mono ?_
      rintro e w1 ⟨rfl, rfl⟩
      go_wp2_with (fail)
      with_reducible refine KA.out.mono ?_
      rintro e w1 ⟨rfl, rfl⟩
      go_wp2_with (fail)
      with_reducible refine KW.out.mono ?_
      rintro e w1 ⟨rfl, hb⟩
      have HB := Lib.hid hb
      clear hb
      go_wp2
      go_ret2
      exact ⟨rfl, HB.out⟩
set_option maxHeartbeats 1000000 in
theorem wait_twice (id rel d r : Int) (h : Whl S B w p room now m) (hd : d ≤ 9223372036854775807) (ho : okT now rel d r) (hid : id ∈ m.map idK) :
    Calls Try.prog 9 #[.pointer (some ⟨p, 0, none⟩), .int .i64 id, .int .i64 rel, .int .i64 d, .int .i64 r] w (Tells (.tuple #[.int .i64 0, .int .i64 7]) w) := by
  unfold okT at ho
  have hp := h.lt
  have KO := Lib.hid (offset_yes d r w (by omega) (by omega) hd)
  have KA := Lib.hid (add_time rel (d - r) w (by omega) (by omega) (by omega))
  have KW := add_twice (rel + (d - r), id) h (by simp only; omega) (by simp only; omega) hid
  simp only [aggQ] at KW
  have KW := Lib.hid KW
  clear h ho hid
  go_enter Try.func9, Try.ntmps9
  go_wp2_with (fail)
  with_reducible refine KO.out.mono ?_
  rintro e w1 ⟨rfl, rfl⟩
  go_wp2_with (fail)
  with_reducible refine KA.out.mono ?_
  rintro e w1 ⟨rfl, rfl⟩
  go_wp2_with (fail)
  with_reducible refine KW.out.mono ?_
  rintro e w1 ⟨rfl, hb⟩
  have HB := Lib.hid hb
  clear hb
  go_wp2
  go_ret2
  exact ⟨rfl, HB.out⟩
set_option maxHeartbeats 1000000 in
theorem wait_full (id rel d r : Int) (h : Whl S B w p room now m) (hd : d ≤ 9223372036854775807) (ho : okT now rel d r) (hid : id ∉ m.map idK) (hf : m.length = room) :
    Calls Try.prog 9 #[.pointer (some ⟨p, 0, none⟩), .int .i64 id, .int .i64 rel, .int .i64 d, .int .i64 r] w (Tells (.tuple #[.int .i64 0, .int .i64 3]) w) := by
  unfold okT at ho
  have hp := h.lt
  have KO := Lib.hid (offset_yes d r w (by omega) (by omega) hd)
  have KA := Lib.hid (add_time rel (d - r) w (by omega) (by omega) (by omega))
  have KW := add_full (rel + (d - r), id) h (by simp only; omega) (by simp only; omega) hid hf
  simp only [aggQ] at KW
  have KW := Lib.hid KW
  clear h ho hid hf
  go_enter Try.func9, Try.ntmps9
  go_wp2_with (fail)
  with_reducible refine KO.out.mono ?_
  rintro e w1 ⟨rfl, rfl⟩
  go_wp2_with (fail)
  with_reducible refine KA.out.mono ?_
  rintro e w1 ⟨rfl, rfl⟩
  go_wp2_with (fail)
  with_reducible refine KW.out.mono ?_
  rintro e w1 ⟨rfl, hb⟩
  have HB := Lib.hid hb
  clear hb
  go_wp2
  go_ret2
  exact ⟨rfl, HB.out⟩
set_option maxHeartbeats 1000000 in
theorem wait_ok (id rel d r : Int) (h : Whl S B w p room now m) (hd : d ≤ 9223372036854775807) (ho : okT now rel d r) (hid : id ∉ m.map idK) (hf : m.length < room) :
    Calls Try.prog 9 #[.pointer (some ⟨p, 0, none⟩), .int .i64 id, .int .i64 rel, .int .i64 d, .int .i64 r] w (Acts (.tuple #[.int .i64 (rel + (d - r)), .int .i64 0]) S B p room now (putK m (rel + (d - r), id)) w) := by
  unfold okT at ho
  have hp := h.lt
  have KO := Lib.hid (offset_yes d r w (by omega) (by omega) hd)
  have KA := Lib.hid (add_time rel (d - r) w (by omega) (by omega) (by omega))
  have KW := add_ok (rel + (d - r), id) h (by simp only; omega) (by simp only; omega) hid hf
  simp only [aggQ] at KW
  have KW := Lib.hid KW
  clear h ho hid hf
  go_enter Try.func9, Try.ntmps9
  go_wp2_with (fail)
  with_reducible refine KO.out.mono ?_
  rintro e w1 ⟨rfl, rfl⟩
  go_wp2_with (fail)
  with_reducible refine KA.out.mono ?_
  rintro e w1 ⟨rfl, rfl⟩
  go_wp2_with (fail)
  with_reducible refine KW.out.mono ?_
  rintro e w1 ⟨rfl, hb⟩
  have HB := Lib.hid hb
  clear hb
  go_wp2
  go_ret2
  exact ⟨rfl, HB.out⟩
/-- What waits behind a Wait; the time that it answers; its error. -/
def waitM (now : Int) (room : Nat) (m : List Ky) (id rel d r : Int) : List Ky := if okT now rel d r ∧ id ∉ m.map idK ∧ m.length ≠ room then putK m (rel + (d - r), id) else m
def waitT (now : Int) (room : Nat) (m : List Ky) (id rel d r : Int) : Int := if okT now rel d r ∧ id ∉ m.map idK ∧ m.length ≠ room then rel + (d - r) else 0
def waitE (now : Int) (room : Nat) (m : List Ky) (id rel d r : Int) : Int := if ¬ okT now rel d r then 1 else if id ∈ m.map idK then 7 else if m.length = room then 3 else 0
end
end Go.Proofs.Ytlodfipiodlgdaa
