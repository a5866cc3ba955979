/- A promoter that the call made, among what the call may turn; the statements' own fixed answers. -/
import Derived.Test.YtlodfipiodlgdaaPv
import Derived.Laws.StructEq
namespace Go.Proofs.Ytlodfipiodlgdaa
open Go.RowKit

/-- In W, behind w0, there is a promoter that w0 had not; what w0 had is as it was. -/
structure Has (w0 : World) (S : Nat → Prop) (p room : Nat) (now : Int) (m : List Ky) (W : World) : Prop where
  whl : Whl S w0.heap.size W p room now m
  below : Below w0.heap.size w0 W
/-- It answers v, and the promoter has m. -/
def Then (v : Value) (w0 : World) (S : Nat → Prop) (p room : Nat) (now : Int) (m : List Ky) (W : World) (e : Ending) (W' : World) : Prop :=
  e = .returned v ∧ (∃ S', Has w0 S' p room now m W' ∧ ∀ k, S' k → S k ∨ W.heap.size ≤ k) ∧ Turns S W W'
section
variable {w0 W W' : World} {S T : Nat → Prop} {p room : Nat} {now : Int} {m n : List Ky}
theorem Has.more (h : Has w0 S p room now m W) (hb : Below W.heap.size W W') : Has w0 S p room now m W' := ⟨h.whl.more hb, h.below.trans (hb.mono h.below.size)⟩
theorem Has.drewN (h : Has w0 S p room now m W) (k : Nat) : Has w0 S p room now m (W.drewN k) := ⟨h.whl.drewN k, below_drewN h.below k⟩
theorem Has.eq (h : Has w0 S p room now m W) (e : m = n) : Has w0 S p room now n W := e ▸ h
theorem Has.turns (h : Has w0 S p room now m W) (ht : Turns T W W') (hT : ∀ k, T k → w0.heap.size ≤ k) (hd : ∀ k, S k → ¬ T k) : Has w0 S p room now m W' :=
  ⟨h.whl.turns ht hd, h.below.trans (ht.below hT h.below.size)⟩
theorem Has.inS (h : Has w0 S p room now m W) : ∀ k, S k → w0.heap.size ≤ k ∧ k < W.heap.size := h.whl.inS
theorem Has.acts {v : Value} {e : Ending} (h : Has w0 S p room now m W) (ha : Acts v S w0.heap.size p room now n W e W') : Then v w0 S p room now n W e W' :=
  let ⟨he, ⟨S', h1, _, h3⟩, ht⟩ := ha
  ⟨he, ⟨S', ⟨h1, h.below.trans (ht.below (fun k hk => (h.whl.inS k hk).1) h.below.size)⟩, h3⟩, ht⟩
theorem Has.tells {v : Value} {e : Ending} (h : Has w0 S p room now m W) (ht : Tells v W e W') : Then v w0 S p room now m W e W' := ⟨ht.1, ⟨S, h.more ht.2, fun _ hk => .inl hk⟩, Turns.of_below ht.2⟩
/-- A new promoter. -/
def HasNew (w0 : World) (n : Nat) (W : World) (e : Ending) (W' : World) : Prop := ∃ p, e = .returned (.tuple #[.pointer (some ⟨p, 0, none⟩), .int .i64 0]) ∧ W.heap.size ≤ p ∧ Has w0 (fun k => k = p) p n 0 [] W' ∧ Below W.heap.size W W'
theorem has_new (n : Nat) (hb : Below w0.heap.size w0 W) (h1 : 1 ≤ n) (h2 : n ≤ 1024) : Calls Try.prog 8 #[.int .i64 (n : Int)] W (HasNew w0 n W) :=
  (new_yes n W hb.size h1 h2).mono fun _ _ ⟨p, he, hp, hh, hb'⟩ => ⟨p, he, hp, ⟨hh, hb.trans (hb'.mono hb.size)⟩, hb'⟩
theorem has_wait (id rel d r : Int) (hd : d ≤ 9223372036854775807) (h : Has w0 S p room now m W) :
    Calls Try.prog 9 #[.pointer (some ⟨p, 0, none⟩), .int .i64 id, .int .i64 rel, .int .i64 d, .int .i64 r] W (Then (.tuple #[.int .i64 (waitT now room m id rel d r), .int .i64 (waitE now room m id rel d r)]) w0 S p room now (waitM now room m id rel d r) W) := by
  unfold waitT waitE waitM
  by_cases ho : okT now rel d r
  · by_cases hid : id ∈ m.map idK
    · have e : ¬ (okT now rel d r ∧ id ∉ m.map idK ∧ m.length ≠ room) := fun h => h.2.1 hid
      rw [if_neg e, if_neg e, if_neg (not_not_intro ho), if_pos hid]
      exact (wait_twice id rel d r h.whl hd ho hid).mono fun _ _ => h.tells
    · by_cases hf : m.length = room
      · have e : ¬ (okT now rel d r ∧ id ∉ m.map idK ∧ m.length ≠ room) := fun h => h.2.2 hf
        rw [if_neg e, if_neg e, if_neg (not_not_intro ho), if_neg hid, if_pos hf]
        exact (wait_full id rel d r h.whl hd ho hid hf).mono fun _ _ => h.tells
      · have e : okT now rel d r ∧ id ∉ m.map idK ∧ m.length ≠ room := ⟨ho, hid, hf⟩
        rw [if_pos e, if_pos e, if_neg (not_not_intro ho), if_neg hid, if_neg hf]
        have := h.whl.len
        exact (wait_ok id rel d r h.whl hd ho hid (by omega)).mono fun _ _ => h.acts
  · have e : ¬ (okT now rel d r ∧ id ∉ m.map idK ∧ m.length ≠ room) := fun h => ho h.1
    rw [if_neg e, if_neg e, if_pos ho]
    exact (wait_arg id rel d r h.whl hd ho).mono fun _ _ => h.tells
theorem has_drop (id : Int) (h : Has w0 S p room now m W) : Calls Try.prog 10 #[.pointer (some ⟨p, 0, none⟩), .int .i64 id] W (Then (.bool (decide (id ∈ m.map idK))) w0 S p room now (wo m id) W) := by
  by_cases hid : id ∈ m.map idK
  · rw [decide_eq_true hid]
    exact (drop_yes id h.whl hid).mono fun _ _ => h.acts
  · rw [decide_eq_false hid, wo_none (ids_none.2 hid)]
    exact (drop_no id h.whl hid).mono fun _ _ => h.tells
/-- What is promoted; the promoter at the new time. -/
def HasPro (n : Nat) (w0 : World) (S : Nat → Prop) (p room : Nat) (m : List Ky) (t : Int) (W : World) (e : Ending) (W' : World) : Prop :=
  ∃ A c, e = .returned (.tuple #[.slice A n c, .int .i64 0]) ∧ Has w0 S p room t (stay m t) W' ∧ Turns S W W' ∧ n ≤ c ∧ Ints W' A c (nums (due m t)) ∧ (∀ x, A = some x → W.heap.size ≤ x.block) ∧ (0 < n → ∃ g, A = some ⟨g, 0, none⟩ ∧ W.heap.size ≤ g ∧ Rest W' g 0 (nums (due m t)))
theorem has_pro (n : Nat) (t : Int) (hn : (due m t).length = n) (h1 : now ≤ t) (h2 : t ≤ 1099511627776) (h : Has w0 S p room now m W) : Calls Try.prog 11 #[.pointer (some ⟨p, 0, none⟩), .int .i64 t] W (HasPro n w0 S p room m t W) := by
  refine (pro_yes t h.whl h1 h2).mono ?_
  rintro e W' ⟨v, rfl, ho, hw, ht⟩
  rw [hn] at ho
  have hb : Below w0.heap.size w0 W' := h.below.trans (ht.below (fun k hk => (h.whl.inS k hk).1) h.below.size)
  have hl : (nums (due m t)).length = n := by rw [nums_len, hn]
  by_cases h0 : 0 < n
  · obtain ⟨g, c, rfl, hg, hc, hr⟩ := own_rest ho h0
    exact ⟨_, c, rfl, ⟨hw, hb⟩, ht, hc, hr.ints (by omega), fun x hx => by cases hx; exact hg, fun _ => ⟨g, rfl, hg, hr⟩⟩
  · obtain ⟨A, c, rfl, hc, -⟩ := own_form ho
    refine ⟨A, c, rfl, ⟨hw, hb⟩, ht, hc, ⟨by omega, fun h => by omega⟩, fun x hx => ?_, fun h => absurd h h0⟩
    exact (own_lt ho (k := x.block) (by rw [hx]; rfl)).1
theorem has_pro_no (t : Int) (ht : t < now ∨ 1099511627776 < t) (h : Has w0 S p room now m W) : Calls Try.prog 11 #[.pointer (some ⟨p, 0, none⟩), .int .i64 t] W (Says (.tuple #[.slice none 0 0, .int .i64 1]) W) := pro_no t h.whl ht
end

set_option maxRecDepth 100000 in
set_option maxHeartbeats 4000000 in
theorem awake (w : World) : Calls Try.prog 7 #[] w (Woke w) := by
  have K1 := Lib.hid (fun W (hb : Below w.heap.size w W) => has_new (w0 := w) 2 hb (by omega) (by omega))
  go_enter Try.func7, Try.ntmps7
  go_wp2_with (fail)
  refine (K1.out _ (Below.refl _ _)).mono ?_
  rintro e w1 ⟨p, rfl, _, h, _⟩
  have H1 := Lib.hid h
  clear h
  go_wp2_with (fail)
  refine (has_wait 1 10 20 5 (by decide) H1.out).mono ?_
  rintro e w2 ⟨rfl, ⟨S2, h, _⟩, _⟩
  have H2 := Lib.hid (h.eq (show _ = [((25, 1) : Ky)] by decide))
  clear h
  rw [show waitT 0 2 [] 1 10 20 5 = 25 by decide, show waitE 0 2 [] 1 10 20 5 = 0 by decide]
  go_wp2_with (fail)
  refine (has_wait 1 10 20 5 (by decide) H2.out).mono ?_
  rintro e w3 ⟨rfl, ⟨S3, h, _⟩, _⟩
  have H3 := Lib.hid (h.eq (show _ = [((25, 1) : Ky)] by decide))
  clear h
  rw [show waitT 0 2 [(25, 1)] 1 10 20 5 = 0 by decide, show waitE 0 2 [(25, 1)] 1 10 20 5 = 7 by decide]
  go_wp2_with (fail)
  refine (has_wait 2 10 5 6 (by decide) H3.out).mono ?_
  rintro e w4 ⟨rfl, ⟨S4, h, _⟩, _⟩
  have H4 := Lib.hid (h.eq (show _ = [((25, 1) : Ky)] by decide))
  clear h
  rw [show waitT 0 2 [(25, 1)] 2 10 5 6 = 0 by decide, show waitE 0 2 [(25, 1)] 2 10 5 6 = 1 by decide]
  go_wp2_with (fail)
  refine (has_pro 0 24 (by decide) (by decide) (by decide) H4.out).mono ?_
  rintro e w5 ⟨A5, c5, rfl, h, _⟩
  have H5 := Lib.hid (h.eq (show _ = [((25, 1) : Ky)] by decide))
  clear h
  go_wp2_with (fail)
  refine (has_pro 1 25 (by decide) (by decide) (by decide) H5.out).mono ?_
  rintro e w6 ⟨A6, c6, rfl, h, _, hc6, hk6, _⟩
  have H6 := Lib.hid (h.eq (show _ = ([] : List Ky) by decide))
  obtain ⟨b, off, rfl, hb, x0⟩ := hk6.at_ (i := 0) (t := 1) (by decide)
  clear h hk6
  simp only [Nat.add_zero] at x0
  have KO := Lib.hid (show Calls Try.prog 13 #[.int .i64 20, .int .i64 5] w6 (Says (.tuple #[.int .i64 15, .bool true]) w6) from offset_yes 20 5 w6 (by decide) (by decide) (by decide))
  go_wp2_with (fail)
  with_reducible refine KO.out.mono ?_
  rintro e w7 ⟨rfl, rfl⟩
  have KL := Lib.hid (show Calls Try.prog 12 #[.pointer (some ⟨p, 0, none⟩)] w6 (Says (.int .i64 0) w6) from waiting H6.out.whl)
  go_wp2_with (fail)
  with_reducible refine KL.out.mono ?_
  rintro e w8 ⟨rfl, rfl⟩
  go_wp2_with (fail)
  refine (drop_no 1 H6.out.whl (by decide)).mono ?_
  rintro e w10 ⟨rfl, hb10⟩
  have HB := Lib.hid (H6.out.below.trans (hb10.mono H6.out.below.size))
  clear hb10
  go_wp2
  go_ret
  exact ⟨rfl, HB.out⟩
end Go.Proofs.Ytlodfipiodlgdaa
