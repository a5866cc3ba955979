/- A heap that the call made, among what the call may turn; the statements' own fixed answers. -/
import Derived.Test.YtblecehmbmbjiaaRf
namespace Go.Proofs.Ytblecehmbmbjiaa
open Go.RowKit

/-- In W, behind w0, there is a heap with the keys m that w0 had not; what w0 had is as it was. -/
structure Has (w0 : World) (p room : Nat) (m : List Ky) (W : World) : Prop where
  heap : Heap W p room m
  below : Below w0.heap.size w0 W
  from_ : w0.heap.size ≤ p
/-- It answers v, and the heap has m. -/
def Then (v : Value) (w0 : World) (p room : Nat) (m : List Ky) (W : World) (e : Ending) (W' : World) : Prop := e = .returned v ∧ Has w0 p room m W' ∧ Turns (fun k => k = p) W W'
section
variable {w0 W W' : World} {p room : Nat} {m n : List Ky}
theorem Has.more (h : Has w0 p room m W) (hb : Below W.heap.size W W') : Has w0 p room m W' := ⟨h.heap.more hb, h.below.trans (hb.mono h.below.size), h.from_⟩
theorem Has.drewN (h : Has w0 p room m W) (k : Nat) : Has w0 p room m (W.drewN k) := ⟨h.heap.drewN k, below_drewN h.below k, h.from_⟩
theorem Has.eq (h : Has w0 p room m W) (e : m = n) : Has w0 p room n W := e ▸ h
theorem Has.turns (h : Has w0 p room m W) {q : Nat} (hq : w0.heap.size ≤ q) (hne : p ≠ q) (ht : Turns (fun k => k = q) W W') : Has w0 p room m W' :=
  ⟨h.heap.turns ht hne, h.below.trans (ht.below (fun k hk => by subst hk; exact hq) h.below.size), h.from_⟩
theorem Has.acts {v : Value} {e : Ending} (h : Has w0 p room m W) (ha : Acts v p room n W e W') : Then v w0 p room n W e W' :=
  ⟨ha.1, ⟨ha.2.1, h.below.trans (ha.2.2.below (fun k hk => by subst hk; exact h.from_) h.below.size), h.from_⟩, ha.2.2⟩
theorem Has.tells {v : Value} {e : Ending} (h : Has w0 p room m W) (ht : Tells v W e W') : Then v w0 p room m W e W' := ⟨ht.1, h.more ht.2, Turns.of_below ht.2⟩
/-- A new heap. -/
def HasNew (w0 : World) (n : Nat) (W : World) (e : Ending) (W' : World) : Prop := e = .returned (.tuple #[.pointer (some ⟨W.heap.size, 0, none⟩), .int .i64 0]) ∧ Has w0 W.heap.size n [] W' ∧ Below W.heap.size W W'
theorem has_new (n : Nat) (hb : Below w0.heap.size w0 W) (h1 : 1 ≤ n) (h2 : n ≤ 1024) : Calls Try.prog 10 #[.int .i64 (n : Int)] W (HasNew w0 n W) :=
  (newHeap n W h1 h2).mono fun _ _ ⟨he, hh, hb'⟩ => ⟨he, ⟨hh, hb.trans (hb'.mono hb.size), hb.size⟩, hb'⟩
theorem has_push (k : Ky) (hid : idK k ∉ m.map idK) (hf : m.length < room) (h : Has w0 p room m W) : Calls Try.prog 13 #[.pointer (some ⟨p, 0, none⟩), aggQ k] W (Then (.int .i64 0) w0 p room (putK m k) W) :=
  (push_new k h.heap hid hf).mono fun _ _ => h.acts
theorem has_push_twice (k : Ky) (hid : idK k ∈ m.map idK) (h : Has w0 p room m W) : Calls Try.prog 13 #[.pointer (some ⟨p, 0, none⟩), aggQ k] W (Then (.int .i64 7) w0 p room m W) :=
  (push_twice k h.heap hid).mono fun _ _ => h.tells
theorem has_push_full (k : Ky) (hid : idK k ∉ m.map idK) (hf : m.length = room) (h : Has w0 p room m W) : Calls Try.prog 13 #[.pointer (some ⟨p, 0, none⟩), aggQ k] W (Then (.int .i64 3) w0 p room m W) :=
  (push_full k h.heap hid hf).mono fun _ _ => h.tells
theorem has_peek (h : Has w0 p room m W) : Calls Try.prog 18 #[.pointer (some ⟨p, 0, none⟩)] W (Then (.tuple #[aggQ (hdK m), .bool (decide (0 < m.length))]) w0 p room m W) :=
  (peekAt h.heap).mono fun _ _ => h.tells
theorem has_pop_none (h : Has w0 p room [] W) : Calls Try.prog 14 #[.pointer (some ⟨p, 0, none⟩)] W (Then (.tuple #[aggQ (0, 0, 0, 0), .bool false]) w0 p room [] W) :=
  (pop_none h.heap).mono fun _ _ => h.tells
theorem has_pop {k : Ky} (h : Has w0 p room (k :: m) W) : Calls Try.prog 14 #[.pointer (some ⟨p, 0, none⟩)] W (Then (.tuple #[aggQ k, .bool true]) w0 p room m W) :=
  (pop_some h.heap).mono fun _ _ => h.acts
theorem has_remove {q : Nat} {b : Ky} (id : Int) (hq : m[q]? = some b) (hid : idK b = id) (h : Has w0 p room m W) : Calls Try.prog 15 #[.pointer (some ⟨p, 0, none⟩), .int .i64 id] W (Then (.bool true) w0 p room (m.eraseIdx q) W) :=
  (remove_yes id h.heap hq hid).mono fun _ _ => h.acts
theorem has_remove_no (id : Int) (hid : id ∉ m.map idK) (h : Has w0 p room m W) : Calls Try.prog 15 #[.pointer (some ⟨p, 0, none⟩), .int .i64 id] W (Then (.bool false) w0 p room m W) :=
  (remove_no id h.heap hid).mono fun e W' ⟨he, hw⟩ => h.tells ⟨he, by rw [← hw]; exact Below.refl _ _⟩
theorem has_change {q : Nat} {b : Ky} (k : Ky) (hq : m[q]? = some b) (hid : idK b = idK k) (h : Has w0 p room m W) : Calls Try.prog 17 #[.pointer (some ⟨p, 0, none⟩), aggQ k] W (Then (.bool true) w0 p room (putK (m.eraseIdx q) k) W) :=
  (change_yes k h.heap hq hid).mono fun _ _ => h.acts
theorem has_change_no (k : Ky) (hid : idK k ∉ m.map idK) (h : Has w0 p room m W) : Calls Try.prog 17 #[.pointer (some ⟨p, 0, none⟩), aggQ k] W (Then (.bool false) w0 p room m W) :=
  (change_no k h.heap hid).mono fun _ _ => h.tells
/-- All keys in order, in a row of their own. -/
def HasAll (n : Nat) (w0 : World) (p room : Nat) (m : List Ky) (W : World) (e : Ending) (W' : World) : Prop :=
  ∃ A c, e = .returned (.slice A n c) ∧ Has w0 p room m W' ∧ Below W.heap.size W W' ∧ n ≤ c ∧ Keys W' A c m ∧ (0 < n → ∃ g, A = some ⟨g, 0, none⟩ ∧ W.heap.size ≤ g ∧ KRow W' g c m)
theorem has_sorted (n : Nat) (hn : m.length = n) (h : Has w0 p room m W) : Calls Try.prog 21 #[.pointer (some ⟨p, 0, none⟩)] W (HasAll n w0 p room m W) := by
  refine (sorted h.heap).mono ?_
  rintro e W' ⟨A, c, rfl, hb, hc, hr⟩
  rw [hn] at hc hr ⊢
  exact ⟨A, c, rfl, h.more hb, hb, hc, AllOf.keys hn hc hr, hr⟩
end

set_option maxRecDepth 100000 in
set_option maxHeartbeats 4000000 in
theorem awake (w : World) : Calls Try.prog 9 #[] w (Woke w) := by
  have K1 := Lib.hid (fun W (hb : Below w.heap.size w W) => has_new (w0 := w) 2 hb (by omega) (by omega))
  go_enter Try.func9, Try.ntmps9
  go_wp2_with (fail)
  refine (K1.out _ (Below.refl _ _)).mono ?_
  rintro e w1 ⟨rfl, h, _⟩
  have H1 := Lib.hid h
  obtain ⟨p, hp⟩ : ∃ p, p = w.heap.size := ⟨_, rfl⟩
  rw [← hp] at H1 ⊢
  clear h hp
  go_wp2_with (fail)
  refine (has_push (0, 5, 0, 1) (by decide) (by decide) H1.out).mono ?_
  rintro e w2 ⟨rfl, h, _⟩
  have H2 := Lib.hid (h.eq (show _ = [((0, 5, 0, 1) : Ky)] by decide))
  clear h
  go_wp2_with (fail)
  refine (has_push (0, 3, 0, 2) (by decide) (by decide) H2.out).mono ?_
  rintro e w3 ⟨rfl, h, _⟩
  have H3 := Lib.hid (h.eq (show _ = [((0, 3, 0, 2) : Ky), (0, 5, 0, 1)] by decide))
  clear h
  go_wp2_with (fail)
  refine (has_push_twice (0, 0, 0, 1) (by decide) H3.out).mono ?_
  rintro e w4 ⟨rfl, h, _⟩
  have H4 := Lib.hid h
  clear h
  go_wp2_with (fail)
  refine (has_push_full (0, 0, 0, 3) (by decide) (by decide) H4.out).mono ?_
  rintro e w5 ⟨rfl, h, _⟩
  have H5 := Lib.hid h
  clear h
  have KP := Lib.hid (show Calls Try.prog 18 #[.pointer (some ⟨p, 0, none⟩)] w5 (Then (.tuple #[.agg #[.int .i64 0, .int .i64 3, .int .i64 0, .int .i64 2], .bool true]) w p 2 [((0, 3, 0, 2) : Ky), (0, 5, 0, 1)] w5) from has_peek H5.out)
  go_wp2_with (fail)
  with_reducible refine KP.out.mono ?_
  rintro e w6 ⟨rfl, h, _⟩
  have H6 := Lib.hid (h.more (below_new w6 (.cells #[.int .i64 0, .int .i64 3, .int .i64 0, .int .i64 2] 31)))
  have HL6 := Lib.hid (Lies.made w6 31 #[.int .i64 0, .int .i64 3, .int .i64 0, .int .i64 2])
  have hpl := h.heap.lt
  clear h
  go_wp2_with (fail)
  refine (has_change (q := 1) (b := (0, 5, 0, 1)) (0, 1, 0, 1) rfl rfl H6.out).mono ?_
  rintro e w7 ⟨rfl, h, ht7⟩
  have H7 := Lib.hid (h.eq (show _ = [((0, 1, 0, 1) : Ky), (0, 3, 0, 2)] by decide))
  have HL7 := Lib.hid (HL6.out.turns ht7 (by omega))
  clear h ht7
  go_wp2_with (fail)
  refine (has_remove (q := 1) (b := (0, 3, 0, 2)) 2 rfl rfl H7.out).mono ?_
  rintro e w8 ⟨rfl, h, ht8⟩
  have H8 := Lib.hid (h.eq (show _ = [((0, 1, 0, 1) : Ky)] by decide))
  have HL8 := Lib.hid (HL7.out.turns ht8 (by omega))
  clear h ht8
  have KL := Lib.hid (show Calls Try.prog 19 #[.pointer (some ⟨p, 0, none⟩)] w8 (Says (.int .i64 1) w8) from lenOf H8.out.heap)
  go_wp2_with (fail)
  with_reducible refine KL.out.mono ?_
  rintro e w9 ⟨rfl, rfl⟩
  have y0 : w8.cell? ⟨w6.heap.size, 0, none⟩ = some (.int .i64 0) := HL8.out.cell 0
  have y1 : w8.cell? ⟨w6.heap.size, 1, none⟩ = some (.int .i64 3) := HL8.out.cell 1
  have y2 : w8.cell? ⟨w6.heap.size, 2, none⟩ = some (.int .i64 0) := HL8.out.cell 2
  have y3 : w8.cell? ⟨w6.heap.size, 3, none⟩ = some (.int .i64 2) := HL8.out.cell 3
  have KC := Lib.hid (show Calls Try.prog 22 #[.agg #[.int .i64 0, .int .i64 3, .int .i64 0, .int .i64 2], .agg #[.int .i64 0, .int .i64 3, .int .i64 0, .int .i64 2]] w8 (Tells (.int .i64 0) w8) from compare_below (0, 3, 0, 2) (0, 3, 0, 2) w8)
  go_wp2_with (fail)
  with_reducible refine KC.out.mono ?_
  rintro e w10 ⟨rfl, hb⟩
  have H10 := Lib.hid (H8.out.more hb)
  clear hb y0 y1 y2 y3
  go_wp2_with (fail)
  refine (has_sorted 1 rfl H10.out).mono ?_
  rintro e w11 ⟨A, c, rfl, h, _⟩
  have HB := Lib.hid h.below
  clear h
  go_wp2
  go_ret
  exact ⟨rfl, HB.out⟩
end Go.Proofs.Ytblecehmbmbjiaa
