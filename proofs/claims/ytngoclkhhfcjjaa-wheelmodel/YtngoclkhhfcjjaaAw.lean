/- A wheel that the call made, among what the call may turn; whether rows are the same; the statements' own fixed answers. -/
import Derived.Test.YtngoclkhhfcjjaaAv
import Derived.Laws.StructEq
namespace Go.Proofs.Ytngoclkhhfcjjaa
open Go.RowKit

/-- In W, behind w0, there is a wheel that w0 had not; what w0 had is as it was. -/
structure Has (w0 : World) (S : Nat → Prop) (p room : Nat) (now : Int) (m : List Ky) (W : World) : Prop where
  whl : Whl S w0.heap.size W p room now m
  below : Below w0.heap.size w0 W
/-- It answers v, and the wheel has m. -/
def Then (v : Value) (w0 : World) (S : Nat → Prop) (p room : Nat) (now : Int) (m : List Ky) (W : World) (e : Ending) (W' : World) : Prop :=
  e = .returned v ∧ (∃ S', Has w0 S' p room now m W' ∧ ∀ k, S' k → S k ∨ W.heap.size ≤ k) ∧ Turns S W W'
section
variable {w0 W W' : World} {S T : Nat → Prop} {p room : Nat} {now : Int} {m n : List Ky}
theorem Has.more (h : Has w0 S p room now m W) (hb : Below W.heap.size W W') : Has w0 S p room now m W' := ⟨h.whl.more hb, h.below.trans (hb.mono h.below.size)⟩
theorem Has.drewN (h : Has w0 S p room now m W) (k : Nat) : Has w0 S p room now m (W.drewN k) := ⟨h.whl.drewN k, below_drewN h.below k⟩
theorem Has.eq (h : Has w0 S p room now m W) (e : m = n) : Has w0 S p room now n W := e ▸ h
theorem Has.turns (h : Has w0 S p room now m W) (ht : Turns T W W') (hT : ∀ k, T k → w0.heap.size ≤ k) (hd : ∀ k, S k → ¬ T k) : Has w0 S p room now m W' :=
  ⟨h.whl.turns ht hd, h.below.trans (ht.below hT h.below.size)⟩
theorem Has.inS (h : Has w0 S p room now m W) : ∀ k, S k → w0.heap.size ≤ k ∧ k < W.heap.size := h.whl.inS
theorem Has.acts {v : Value} {e : Ending} (h : Has w0 S p room now m W) (ha : Acts v S w0.heap.size p room now n W e W') : Then v w0 S p room now n W e W' :=
  let ⟨he, ⟨S', h1, _, h3⟩, ht⟩ := ha
  ⟨he, ⟨S', ⟨h1, h.below.trans (ht.below (fun k hk => (h.whl.inS k hk).1) h.below.size)⟩, h3⟩, ht⟩
theorem Has.tells {v : Value} {e : Ending} (h : Has w0 S p room now m W) (ht : Tells v W e W') : Then v w0 S p room now m W e W' := ⟨ht.1, ⟨S, h.more ht.2, fun _ hk => .inl hk⟩, Turns.of_below ht.2⟩
/-- A new wheel. -/
def HasNew (w0 : World) (n : Nat) (W : World) (e : Ending) (W' : World) : Prop := e = .returned (.tuple #[.pointer (some ⟨W.heap.size, 0, none⟩), .int .i64 0]) ∧ Has w0 (fun k => k = W.heap.size) W.heap.size n 0 [] W' ∧ Below W.heap.size W W'
theorem has_new (n : Nat) (hb : Below w0.heap.size w0 W) (h1 : 1 ≤ n) (h2 : n ≤ 1024) : Calls Try.prog 9 #[.int .i64 (n : Int)] W (HasNew w0 n W) :=
  (newWheel n W hb.size h1 h2).mono fun _ _ ⟨he, hh, hb'⟩ => ⟨he, ⟨hh, hb.trans (hb'.mono hb.size)⟩, hb'⟩
theorem has_add (d : Ky) (h1 : now ≤ d.1) (h2 : d.1 ≤ 1099511627776) (hid : idK d ∉ m.map idK) (hf : m.length < room) (h : Has w0 S p room now m W) : Calls Try.prog 11 #[.pointer (some ⟨p, 0, none⟩), aggQ d] W (Then (.int .i64 0) w0 S p room now (putK m d) W) :=
  (add_ok d h.whl h1 h2 hid hf).mono fun _ _ => h.acts
theorem has_add_arg (d : Ky) (hd : d.1 < now ∨ 1099511627776 < d.1) (h : Has w0 S p room now m W) : Calls Try.prog 11 #[.pointer (some ⟨p, 0, none⟩), aggQ d] W (Then (.int .i64 1) w0 S p room now m W) :=
  (add_arg d h.whl hd).mono fun _ _ => h.tells
theorem has_add_twice (d : Ky) (h1 : now ≤ d.1) (h2 : d.1 ≤ 1099511627776) (hid : idK d ∈ m.map idK) (h : Has w0 S p room now m W) : Calls Try.prog 11 #[.pointer (some ⟨p, 0, none⟩), aggQ d] W (Then (.int .i64 7) w0 S p room now m W) :=
  (add_twice d h.whl h1 h2 hid).mono fun _ _ => h.tells
theorem has_add_full (d : Ky) (h1 : now ≤ d.1) (h2 : d.1 ≤ 1099511627776) (hid : idK d ∉ m.map idK) (hf : m.length = room) (h : Has w0 S p room now m W) : Calls Try.prog 11 #[.pointer (some ⟨p, 0, none⟩), aggQ d] W (Then (.int .i64 3) w0 S p room now m W) :=
  (add_full d h.whl h1 h2 hid hf).mono fun _ _ => h.tells
theorem has_cancel (id : Int) (hid : id ∈ m.map idK) (h : Has w0 S p room now m W) : Calls Try.prog 12 #[.pointer (some ⟨p, 0, none⟩), .int .i64 id] W (Then (.bool true) w0 S p room now (wo m id) W) :=
  (cancel_yes id h.whl hid).mono fun _ _ => h.acts
theorem has_cancel_no (id : Int) (hid : id ∉ m.map idK) (h : Has w0 S p room now m W) : Calls Try.prog 12 #[.pointer (some ⟨p, 0, none⟩), .int .i64 id] W (Then (.bool false) w0 S p room now m W) :=
  (cancel_no id h.whl hid).mono fun _ _ => h.tells
/-- What came; the wheel at the new time. -/
def HasAdv (n : Nat) (w0 : World) (S : Nat → Prop) (p room : Nat) (m : List Ky) (t : Int) (W : World) (e : Ending) (W' : World) : Prop :=
  ∃ A c, e = .returned (.tuple #[.slice A n c, .int .i64 0]) ∧ Has w0 S p room t (stay m t) W' ∧ Turns S W W' ∧ n ≤ c ∧ Keys W' A c (due m t) ∧ (∀ x, A = some x → W.heap.size ≤ x.block) ∧ (0 < n → ∃ g, A = some ⟨g, 0, none⟩ ∧ W.heap.size ≤ g ∧ KRow W' g c (due m t))
theorem has_adv (n : Nat) (t : Int) (hn : (due m t).length = n) (h1 : now ≤ t) (h2 : t ≤ 1099511627776) (h : Has w0 S p room now m W) : Calls Try.prog 13 #[.pointer (some ⟨p, 0, none⟩), .int .i64 t] W (HasAdv n w0 S p room m t W) := by
  refine (adv_yes t h.whl h1 h2).mono ?_
  rintro e W' ⟨A, n', c, rfl, hn', hc, hr, hw, ht⟩
  obtain rfl : n = n' := by omega
  refine ⟨A, c, rfl, ⟨hw, h.below.trans (ht.below (fun k hk => (h.whl.inS k hk).1) h.below.size)⟩, ht, hc, ?_, ?_, ?_⟩
  · rcases hr with ⟨rfl, h0⟩ | ⟨g, rfl, _, hr⟩
    · have : due m t = [] := List.eq_nil_of_length_eq_zero (by omega)
      rw [this]
      exact keys_none _ _ _
    · exact hr.keys
  · intro x hx
    rcases hr with ⟨rfl, h0⟩ | ⟨g, rfl, hg, hr⟩
    · cases hx
    · cases hx; exact hg
  · intro h0
    rcases hr with ⟨rfl, h0'⟩ | ⟨g, rfl, hg, hr⟩
    · omega
    · exact ⟨g, rfl, hg, hr⟩
end

def SameRel (n : Nat) (w : World) (i : Value) (W : World) : Prop := ∃ k m : Nat, k ≤ n ∧ i = .int .i64 (k : Int) ∧ W = w.drewN m
set_option maxRecDepth 100000 in
set_option maxHeartbeats 2000000 in
theorem refSame (l : List Ky) (x y : Option Addr) (c d : Nat) {w : World} (hl : l.length ≤ 2000) (hx : Keys w x c l) (hy : Keys w y d l) :
    Calls Try.prog 14 #[.slice x l.length c, .slice y l.length d] w (Saw (.bool true) w) := by
  have HX := Lib.hid hx
  have HY := Lib.hid hy
  clear hx hy
  go_enter Try.func14, Try.ntmps14
  go_wp2
  go_loopw [5] (fun i W => SameRel l.length w i W) (fun i _ => l.length - (intOf i).toNat)
  case atStart => exact ⟨0, 0, by omega, rfl, rfl⟩
  case round =>
    obtain ⟨k, m, hk, rfl, rfl⟩ := hrel
    by_cases hlt : k < l.length
    · have t1 : decide ((k : Int) < (l.length : Int)) = true := by simp; omega
      have hx : l[k]? = some l[k] := List.getElem?_eq_getElem hlt
      obtain ⟨b1, o1, rfl, _, u0, u1⟩ := HX.out.cells hx
      obtain ⟨b2, o2, rfl, _, v0, v1⟩ := HY.out.cells hx
      clear hx
      generalize l[k] = t at u0 u1 v0 v1
      obtain ⟨t0, t4⟩ := t
      simp only at u0 u1 v0 v1
      go_wp2
      go_quiet (fail)
      go_wp2
      go_roundw
      case rel => first | exact ⟨k + 1, _, by omega, by go_num, rfl⟩ | exact ⟨k + 1, _, by omega, by go_num, World.drewN_drewN _ _ _⟩
      case measure => simp [intOf]; omega
    · have t1 : decide ((k : Int) < (l.length : Int)) = false := by simp; omega
      have t1' : decide (k < l.length) = false := by simp; omega
      go_wp2
      go_ret
      exact ⟨rfl, m, rfl⟩

set_option maxRecDepth 100000 in
set_option maxHeartbeats 4000000 in
theorem awake (w : World) : Calls Try.prog 8 #[] w (Woke w) := by
  have K1 := Lib.hid (fun W (hb : Below w.heap.size w W) => has_new (w0 := w) 2 hb (by omega) (by omega))
  go_enter Try.func8, Try.ntmps8
  go_wp2_with (fail)
  refine (K1.out _ (Below.refl _ _)).mono ?_
  rintro e w1 ⟨rfl, h, _⟩
  have H1 := Lib.hid h
  obtain ⟨p, hp⟩ : ∃ p, p = w.heap.size := ⟨_, rfl⟩
  rw [← hp] at H1 ⊢
  clear h hp
  go_wp2_with (fail)
  refine (has_add (5, 1) (by decide) (by decide) (by decide) (by decide) H1.out).mono ?_
  rintro e w2 ⟨rfl, ⟨S2, h, _⟩, _⟩
  have H2 := Lib.hid (h.eq (show _ = [((5, 1) : Ky)] by decide))
  clear h
  go_wp2_with (fail)
  refine (has_add_twice (3, 1) (by decide) (by decide) (by decide) H2.out).mono ?_
  rintro e w3 ⟨rfl, ⟨S3, h, _⟩, _⟩
  have H3 := Lib.hid h
  clear h
  go_wp2_with (fail)
  refine (has_adv 0 4 (by decide) (by decide) (by decide) H3.out).mono ?_
  rintro e w4 ⟨A4, c4, rfl, h, _⟩
  have H4 := Lib.hid (h.eq (show _ = [((5, 1) : Ky)] by decide))
  clear h
  have KN := Lib.hid (show Calls Try.prog 15 #[.pointer (some ⟨p, 0, none⟩)] w4 (Says (.tuple #[.int .i64 5, .bool true]) w4) from nextOf H4.out.whl)
  go_wp2_with (fail)
  with_reducible refine KN.out.mono ?_
  rintro e w5 ⟨rfl, rfl⟩
  go_wp2_with (fail)
  refine (has_adv 1 5 (by decide) (by decide) (by decide) H4.out).mono ?_
  rintro e w6 ⟨A6, c6, rfl, h, _, hc6, hk6, _⟩
  have H6 := Lib.hid (h.eq (show _ = ([] : List Ky) by decide))
  obtain ⟨b, off, rfl, hb, x0, x1⟩ := hk6.cells (i := 0) (t := (5, 1)) (by decide)
  clear h hk6
  simp only [Nat.zero_mul, Nat.add_zero] at x0 x1
  have KA := Lib.hid (show Calls Try.prog 13 #[.pointer (some ⟨p, 0, none⟩), .int .i64 4] w6 (Says (.tuple #[.slice none 0 0, .int .i64 1]) w6) from adv_no 4 H6.out.whl (.inl (by decide)))
  go_wp2_with (fail)
  with_reducible refine KA.out.mono ?_
  rintro e w7 ⟨rfl, rfl⟩
  have KW := Lib.hid (show Calls Try.prog 16 #[.pointer (some ⟨p, 0, none⟩)] w6 (Says (.int .i64 5) w6) from nowOf H6.out.whl)
  have KL := Lib.hid (show Calls Try.prog 17 #[.pointer (some ⟨p, 0, none⟩)] w6 (Says (.int .i64 0) w6) from lenOf H6.out.whl)
  go_wp2_with (fail)
  with_reducible refine KW.out.mono ?_
  rintro e w8 ⟨rfl, rfl⟩
  go_wp2_with (fail)
  with_reducible refine KL.out.mono ?_
  rintro e w9 ⟨rfl, rfl⟩
  go_wp2_with (fail)
  refine (has_cancel_no 1 (by decide) H6.out).mono ?_
  rintro e w10 ⟨rfl, ⟨S10, h, _⟩, _⟩
  have HB := Lib.hid h.below
  clear h
  go_wp2
  go_ret
  exact ⟨rfl, HB.out⟩
end Go.Proofs.Ytngoclkhhfcjjaa
