/- A table that the call made, among what the call may turn: each call on it. -/
import Derived.Test.YtfendnccnhmllaaRf
import Derived.Test.YtfendnccnhmllaaFd
namespace Go.Proofs.Ytfendnccnhmllaa
open Go.RowKit

/-- 'true', and nothing that was there has turned. -/
def Woke (w : World) (e : Ending) (w' : World) : Prop := e = .returned (.bool true) ∧ Below w.heap.size w w'

/-- In W, behind w0, there is a table with the names xs that w0 had not; what w0 had is as it was. -/
def Has (w0 : World) (p room : Nat) (xs : List ByteArray) (W : World) : Prop := (∃ S, Idx S w0.heap.size W p room xs) ∧ Below w0.heap.size w0 W
/-- It answers v, and the table has xs. -/
def Then (v : Value) (w0 : World) (p room : Nat) (xs : List ByteArray) (e : Ending) (W : World) : Prop := e = .returned v ∧ Has w0 p room xs W
section
variable {w0 W W' : World} {p room : Nat} {xs ys : List ByteArray}
theorem Has.below (h : Has w0 p room xs W) : Below w0.heap.size w0 W := h.2
theorem Has.drewN (h : Has w0 p room xs W) (n : Nat) : Has w0 p room xs (W.drewN n) :=
  let ⟨S, hi⟩ := h.1
  ⟨⟨S, hi.drewN n⟩, below_drewN h.2 n⟩
theorem Has.more (h : Has w0 p room xs W) (hb : Below W.heap.size W W') : Has w0 p room xs W' :=
  let ⟨S, hi⟩ := h.1
  ⟨⟨S, hi.more hb⟩, h.2.trans (hb.mono h.2.size)⟩
theorem Has.saw {v : Value} {e : Ending} (h : Has w0 p room xs W) (hs : Saw v W e W') : Then v w0 p room xs e W' := by
  obtain ⟨rfl, m, rfl⟩ := hs
  exact ⟨rfl, h.drewN m⟩
theorem Has.fits (h : Has w0 p room xs W) : 1 ≤ room ∧ room ≤ 256 ∧ xs.length ≤ room := let ⟨_, hi⟩ := h.1; ⟨hi.r1, hi.r2, hi.len⟩
theorem Has.nodup (h : Has w0 p room xs W) : xs.Nodup := let ⟨_, hi⟩ := h.1; hi.nodup
theorem Has.eq (h : Has w0 p room xs W) (e : xs = ys) : Has w0 p room ys W := e ▸ h

/-- A new table. -/
def HasNew (w0 : World) (n : Nat) (e : Ending) (W : World) : Prop := ∃ p, e = .returned (.tuple #[.pointer (some ⟨p, 0, none⟩), .int .i64 0]) ∧ Has w0 p n [] W
theorem has_new (n : Nat) (hb : Below w0.heap.size w0 W) (h1 : 1 ≤ n) (h2 : n ≤ 256) : Calls Try.prog 10 #[.int .i64 (n : Int)] W (HasNew w0 n) := by
  refine (new (B := w0.heap.size) n W hb.size h1 h2).mono ?_
  rintro e W' ⟨p, rfl, hp, hi, hb'⟩
  exact ⟨p, rfl, ⟨_, hi⟩, hb.trans (hb'.mono hb.size)⟩

theorem has_put (s : ByteArray) (hs : nm s = true) (hx : s ∉ xs) (hl : xs.length < room) (h : Has w0 p room xs W) :
    Calls Try.prog 11 #[.pointer (some ⟨p, 0, none⟩), .string s] W (Then (.tuple #[.int .i64 (xs.length : Int), .int .i64 0]) w0 p room (xs ++ [s])) := by
  obtain ⟨⟨S, hi⟩, hb⟩ := h
  refine (put s hs hx hl hi).mono ?_
  rintro e W' ⟨rfl, ⟨S', hi', _, _⟩, ht⟩
  exact ⟨rfl, ⟨S', hi'⟩, hb.trans (ht.below (fun k hk => (hi.inS k hk).1) hb.size)⟩
theorem has_put_arg (s : ByteArray) (hs : nm s = false) (h : Has w0 p room xs W) :
    Calls Try.prog 11 #[.pointer (some ⟨p, 0, none⟩), .string s] W (Then (.tuple #[.int .i64 0, .int .i64 1]) w0 p room xs) :=
  (put_arg s hs).mono fun _ _ hw => h.saw hw
theorem has_put_twice (s : ByteArray) (hs : nm s = true) (hx : s ∈ xs) (h : Has w0 p room xs W) :
    Calls Try.prog 11 #[.pointer (some ⟨p, 0, none⟩), .string s] W (Then (.tuple #[.int .i64 0, .int .i64 7]) w0 p room xs) :=
  let ⟨_, hi⟩ := h.1
  (put_twice s hs hx hi).mono fun _ _ hw => h.saw hw
theorem has_put_full (s : ByteArray) (hs : nm s = true) (hx : s ∉ xs) (hl : xs.length = room) (h : Has w0 p room xs W) :
    Calls Try.prog 11 #[.pointer (some ⟨p, 0, none⟩), .string s] W (Then (.tuple #[.int .i64 0, .int .i64 3]) w0 p room xs) :=
  let ⟨_, hi⟩ := h.1
  (put_full s hs hx hl hi).mono fun _ _ hw => h.saw hw
theorem has_find_no (s : ByteArray) (hs : s ∉ xs) (h : Has w0 p room xs W) :
    Calls Try.prog 14 #[.pointer (some ⟨p, 0, none⟩), .string s] W (Then (.tuple #[.int .i64 0, .bool false]) w0 p room xs) :=
  let ⟨_, hi⟩ := h.1
  (find_no s hs hi).mono fun _ _ hw => h.saw hw
theorem has_find (s : ByteArray) (k : Nat) (hk : xs[k]? = some s) (h : Has w0 p room xs W) :
    Calls Try.prog 14 #[.pointer (some ⟨p, 0, none⟩), .string s] W (Then (.tuple #[.int .i64 (k : Int), .bool true]) w0 p room xs) :=
  let ⟨_, hi⟩ := h.1
  (find_yes s k hk hi).mono fun _ _ hw => h.saw hw
/-- All names, rising, in a row of their own. -/
def HasAll (n : Nat) (w0 : World) (p room : Nat) (xs : List ByteArray) (W : World) (e : Ending) (W' : World) : Prop :=
  ∃ b cap, e = .returned (.slice (some ⟨b, 0, none⟩) n cap) ∧ W'.ownsRow W.heap.size 9 1 (.slice (some ⟨b, 0, none⟩) n cap) n ((srt xs).map Value.string) ∧ Has w0 p room xs W' ∧ Below W.heap.size W W'
theorem has_sorted (n : Nat) (hn : xs.length = n) (h : Has w0 p room xs W) : Calls Try.prog 17 #[.pointer (some ⟨p, 0, none⟩)] W (HasAll n w0 p room xs W) := by
  obtain ⟨S, hi⟩ := h.1
  refine (sorted hi).mono ?_
  rintro e W' ⟨b, cap, rfl, ho, hb⟩
  rw [length_srt, hn] at ho ⊢
  exact ⟨b, cap, rfl, ho, h.more hb, hb⟩
end

theorem nm_b : nm ⟨#[98]⟩ = true := by decide +kernel
theorem nm_a1 : nm ⟨#[97, 95, 49]⟩ = true := by decide +kernel
theorem nm_c : nm ⟨#[99]⟩ = true := by decide +kernel
theorem nm_z9 : nm ⟨#[122, 57]⟩ = true := by decide +kernel
theorem nm_9z : nm ⟨#[57, 122]⟩ = false := by decide +kernel
theorem named_z9 (w : World) : Calls Try.prog 19 #[.string ⟨#[122, 57]⟩] w (Says (.bool true) w) := by have := named ⟨#[122, 57]⟩ w; rw [nm_z9] at this; exact this
theorem named_9z (w : World) : Calls Try.prog 19 #[.string ⟨#[57, 122]⟩] w (Says (.bool false) w) := by have := named ⟨#[57, 122]⟩ w; rw [nm_9z] at this; exact this

set_option maxRecDepth 100000 in
set_option maxHeartbeats 2000000 in
theorem awake (w : World) : Calls Try.prog 8 #[] w (Woke w) := by
  go_enter Try.func8, Try.ntmps8
  go_wp2_with (fail)
  refine (has_new (w0 := w) 2 (Below.refl _ _) (by omega) (by omega)).mono ?_
  rintro e w1 ⟨p, rfl, h⟩
  have H1 := Lib.hid h
  clear h
  go_wp2_with (fail)
  refine (has_put ⟨#[98]⟩ nm_b (by simp) (by simp) H1.out).mono ?_
  rintro e w2 ⟨rfl, h⟩
  have H2 := Lib.hid h
  clear h
  go_wp2_with (fail)
  refine (has_put ⟨#[97, 95, 49]⟩ nm_a1 (by simp) (by simp) H2.out).mono ?_
  rintro e w3 ⟨rfl, h⟩
  have H3 := Lib.hid h
  clear h
  go_wp2_with (fail)
  refine (has_put_twice ⟨#[98]⟩ nm_b (by simp) H3.out).mono ?_
  rintro e w4 ⟨rfl, h⟩
  have H4 := Lib.hid h
  clear h
  go_wp2_with (fail)
  refine (has_put_full ⟨#[99]⟩ nm_c (by simp) (by simp) H4.out).mono ?_
  rintro e w5 ⟨rfl, h⟩
  have H5 := Lib.hid h
  clear h
  go_wp2_with (fail)
  refine (has_find ⟨#[97, 95, 49]⟩ 1 rfl H5.out).mono ?_
  rintro e w6 ⟨rfl, h⟩
  have H6 := Lib.hid h
  clear h
  go_wp2_with (fail)
  refine (has_sorted 2 rfl H6.out).mono ?_
  rintro e w7 ⟨b, cap, rfl, _, h, _⟩
  have H7 := Lib.hid h
  clear h
  go_wp2_with (fail)
  refine (named_z9 _).mono ?_
  rintro e w' ⟨rfl, rfl⟩
  go_wp2_with (fail)
  refine (named_9z _).mono ?_
  rintro e w' ⟨rfl, rfl⟩
  go_wp2
  go_ret
  exact ⟨rfl, H7.out.below⟩
end Go.Proofs.Ytfendnccnhmllaa
