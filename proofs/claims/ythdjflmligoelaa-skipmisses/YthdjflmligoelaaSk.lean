/- A skipper as it lies there; contracts: what is asked of it, one more job, a new one. -/
import Derived.Test.YthdjflmligoelaaWp
import Derived.Test.YthdjflmligoelaaCo
namespace Go.Proofs.Ythdjflmligoelaa
open Go.RowKit Nu

/-- A skipper at p, its last jobs at g: of a right pattern, behind j jobs, behind fl of which it failed. -/
def Skp (kd : Int) (m n j fl : Nat) (w : World) (p g : Nat) (xs : List Bool) : Prop :=
  Pat kd (m : Int) (n : Int) ∧ j ≤ 1099511627776 ∧ fl ≤ j ∧ Win ⟨kd, (n : Int), (j : Int), (fl : Int)⟩ m w p g n xs
section
variable {kd : Int} {m n j fl p g : Nat} {w w' : World} {xs : List Bool}
theorem Skp.c0 (h : Skp kd m n j fl w p g xs) : w.cell? ⟨p, 0, none⟩ = some (.int .i64 kd) := by
  obtain ⟨_, _, _, _, _, _, _, f, hr⟩ := h
  rw [hr.head.cell]; rfl
theorem Skp.c1 (h : Skp kd m n j fl w p g xs) : w.cell? ⟨p, 1, none⟩ = some (.int .i64 (m : Int)) := by
  obtain ⟨_, _, _, _, _, _, _, f, hr⟩ := h
  rw [hr.head.cell]; rfl
theorem Skp.c2 (h : Skp kd m n j fl w p g xs) : w.cell? ⟨p, 2, none⟩ = some (.int .i64 (n : Int)) := by
  obtain ⟨_, _, _, _, _, _, _, f, hr⟩ := h
  rw [hr.head.cell]; rfl
theorem Skp.c3 (h : Skp kd m n j fl w p g xs) : w.cell? ⟨p, 3, none⟩ = some (.int .i64 (j : Int)) := by
  obtain ⟨_, _, _, _, _, _, _, f, hr⟩ := h
  rw [hr.head.cell]; rfl
theorem Skp.c4 (h : Skp kd m n j fl w p g xs) : w.cell? ⟨p, 4, none⟩ = some (.int .i64 (fl : Int)) := by
  obtain ⟨_, _, _, _, _, _, _, f, hr⟩ := h
  rw [hr.head.cell]; rfl
theorem Skp.win (h : Skp kd m n j fl w p g xs) : Win ⟨kd, (n : Int), (j : Int), (fl : Int)⟩ m w p g n xs := h.2.2.2
theorem Skp.len (h : Skp kd m n j fl w p g xs) : xs.length = n := h.2.2.2.1
theorem Skp.drewN (h : Skp kd m n j fl w p g xs) (k : Nat) : Skp kd m n j fl (w.drewN k) p g xs := ⟨h.1, h.2.1, h.2.2.1, h.2.2.2.drewN k⟩
theorem Skp.tells (h : Skp kd m n j fl w p g xs) (hb : Below w.heap.size w w') : Skp kd m n j fl w' p g xs := ⟨h.1, h.2.1, h.2.2.1, h.2.2.2.tells hb⟩
/-- One more of the numbers ahead of the window. -/
theorem Win.jobs (h : Win ⟨kd, (n : Int), (j : Int), (fl : Int)⟩ m w p g n xs) : Win ⟨kd, (n : Int), ((j + 1 : Nat) : Int), (fl : Int)⟩ m (w.setCell ⟨p, 3, none⟩ (.int .i64 ((j : Int) + 1))) p g n xs := by
  obtain ⟨h1, h2, h3, h4, f, hr⟩ := h
  obtain ⟨cs, hl, hs⟩ := hr.body
  exact ⟨h1, h2, h3, h4, f, hr.ne, hr.n1, hr.n2, hr.f1, hr.len, hr.head.here 3 _, cs, hl.there (a := ⟨p, 3, none⟩) (Ne.symm hr.ne) _, hs⟩
theorem Win.fails' (h : Win ⟨kd, (n : Int), (j : Int), (fl : Int)⟩ m w p g n xs) : Win ⟨kd, (n : Int), (j : Int), ((fl + 1 : Nat) : Int)⟩ m (w.setCell ⟨p, 4, none⟩ (.int .i64 ((fl : Int) + 1))) p g n xs := by
  obtain ⟨h1, h2, h3, h4, f, hr⟩ := h
  obtain ⟨cs, hl, hs⟩ := hr.body
  exact ⟨h1, h2, h3, h4, f, hr.ne, hr.n1, hr.n2, hr.f1, hr.len, hr.head.here 4 _, cs, hl.there (a := ⟨p, 4, none⟩) (Ne.symm hr.ne) _, hs⟩
end

set_option maxHeartbeats 400000 in
theorem jobs {kd : Int} {m n j fl p g : Nat} {w : World} {xs : List Bool} (h : Skp kd m n j fl w p g xs) :
    Calls Try.prog 11 #[.pointer (some ⟨p, 0, none⟩)] w (Says (.int .i64 (j : Int)) w) := by
  have c3 := h.c3
  clear h
  go_enter Try.func11, Try.ntmps11
  go_wp2
  go_ret
  exact ⟨rfl, rfl⟩
set_option maxHeartbeats 400000 in
theorem failed {kd : Int} {m n j fl p g : Nat} {w : World} {xs : List Bool} (h : Skp kd m n j fl w p g xs) :
    Calls Try.prog 13 #[.pointer (some ⟨p, 0, none⟩)] w (Says (.int .i64 (fl : Int)) w) := by
  have c4 := h.c4
  clear h
  go_enter Try.func13, Try.ntmps13
  go_wp2
  go_ret
  exact ⟨rfl, rfl⟩
set_option maxHeartbeats 400000 in
theorem far {kd : Int} {m n j fl p g : Nat} {w : World} {xs : List Bool} (h : Skp kd m n j fl w p g xs) :
    Calls Try.prog 12 #[.pointer (some ⟨p, 0, none⟩)] w (Saw (.int .i64 (dist m xs : Nat)) w) := by
  have K := Lib.hid (distance h.win)
  clear h
  go_enter Try.func12, Try.ntmps12
  go_wp2_with (fail)
  with_reducible refine K.out.mono ?_
  rintro e w' ⟨rfl, q, rfl⟩
  go_wp2
  go_ret
  exact ⟨rfl, _, rfl⟩
/-- Must the next job be? -/
def mustB (kd : Int) (m n j : Nat) (xs : List Bool) : Bool := must kd (j : Int) (m : Int) (n : Int) || decide (dist m xs ≤ 1)
set_option maxRecDepth 100000 in
set_option maxHeartbeats 1000000 in
theorem mustOf {kd : Int} {m n j fl p g : Nat} {w : World} {xs : List Bool} (h : Skp kd m n j fl w p g xs) :
    Calls Try.prog 14 #[.pointer (some ⟨p, 0, none⟩)] w (Saw (.bool (mustB kd m n j xs)) w) := by
  have c0 := h.c0
  have c1 := h.c1
  have c2 := h.c2
  have c3 := h.c3
  have hj := h.2.1
  have KM := fun q => mustAt h.1 (j : Int) (w.drewN q) (by omega) (by omega)
  have KD := Lib.hid (fun q => distance (h.win.drewN q))
  clear h
  unfold mustB
  cases e : must kd (j : Int) (m : Int) (n : Int) with
  | true =>
    rw [e] at KM
    have KM := Lib.hid KM
    rw [Bool.true_or]
    clear e KD
    go_enter Try.func14, Try.ntmps14
    go_wp2_with (fail)
    go_quiet ((go_at_call 20; exact Calls.quiet_of (KM.out _)))
    go_wp2
    go_ret
    exact ⟨rfl, _, rfl⟩
  | false =>
    rw [e] at KM
    have KM := Lib.hid KM
    rw [Bool.false_or]
    clear e
    generalize dist m xs = d at KD ⊢
    by_cases hd : d ≤ 1
    · have t1 : decide ((d : Int) ≤ 1) = true := by simp; omega
      rw [decide_eq_true hd]
      go_enter Try.func14, Try.ntmps14
      go_wp2_with (fail)
      go_quiet (first | (go_at_call 20; exact Calls.quiet_of (KM.out _)) | (go_at_call 19; exact Calls.quiet_of (KD.out _)))
      go_wp2
      go_ret
      exact ⟨rfl, _, rfl⟩
    · have t1 : decide ((d : Int) ≤ 1) = false := by simp; omega
      rw [decide_eq_false hd]
      go_enter Try.func14, Try.ntmps14
      go_wp2_with (fail)
      go_quiet (first | (go_at_call 20; exact Calls.quiet_of (KM.out _)) | (go_at_call 19; exact Calls.quiet_of (KD.out _)))
      go_wp2
      go_ret
      exact ⟨rfl, _, rfl⟩

/-- How often it failed, behind one more. -/
def more (m fl : Nat) (ys : List Bool) : Nat := if mets ys < m then fl + 1 else fl
/-- One more job went so; only the skipper's blocks have turned. -/
def Went (kd : Int) (m n j fl p g : Nat) (ys : List Bool) (w : World) (e : Ending) (w' : World) : Prop :=
  e = .returned (.tuple #[]) ∧ Skp kd m n (j + 1) (more m fl ys) w' p g ys ∧ Turns p g w w'
set_option maxRecDepth 100000 in
set_option maxHeartbeats 1000000 in
theorem went {kd : Int} {m n j fl p g : Nat} {w : World} {xs : List Bool} (h : Skp kd m n j fl w p g xs) (hj : j < 1099511627776) (x : Bool) :
    Calls Try.prog 16 #[.pointer (some ⟨p, 0, none⟩), .bool x] w (Went kd m n j fl p g (xs.drop 1 ++ [x]) w) := by
  have c3 := h.c3
  have t3 : w.frozen? ⟨p, 3, none⟩ = false := by obtain ⟨_, _, _, _, _, _, _, f, hr⟩ := h; exact hr.t 3
  have hfl := h.2.2.1
  have HP := Lib.hid h.1
  have H1 := Lib.hid h.win.jobs
  obtain ⟨ys, hys⟩ : ∃ ys, ys = xs.drop 1 ++ [x] := ⟨_, rfl⟩
  have KP := Lib.hid (push H1.out x)
  rw [← hys] at KP ⊢
  have T1 := Lib.hid ((Turns.refl p g w).setCell (a := ⟨p, 3, none⟩) (.inl rfl) (.int .i64 ((j : Int) + 1)))
  clear h hys H1
  go_enter Try.func16, Try.ntmps16
  go_wp2_with (fail)
  with_reducible refine KP.out.mono ?_
  rintro e w1 ⟨rfl, hw, ht⟩
  have H2 := Lib.hid hw
  have T2 := Lib.hid (T1.out.trans ht)
  have K := Lib.hid (fails hw)
  clear hw ht KP T1 c3 t3
  by_cases hb : mets ys < m
  · rw [decide_eq_true hb] at K
    have HM := Lib.hid (show more m fl ys = fl + 1 from if_pos hb)
    have c4 : ∀ q, (w1.drewN q).cell? ⟨p, 4, none⟩ = some (.int .i64 (fl : Int)) := fun q => Skp.c4 (j := j + 1) ⟨HP.out, by omega, by omega, H2.out.drewN q⟩
    have t4 : ∀ q, (w1.drewN q).frozen? ⟨p, 4, none⟩ = false := fun q => by obtain ⟨_, _, _, _, f, hr⟩ := H2.out.drewN q; exact hr.t 4
    clear hb
    go_wp2_with (fail)
    with_reducible refine K.out.mono ?_
    rintro e w2 ⟨rfl, q, rfl⟩
    have c4 := c4 q
    have t4 := t4 q
    go_wp2
    go_end0
    refine ⟨rfl, ⟨HP.out, by omega, by rw [HM.out]; omega, ?_⟩, (T2.out.drewN q).setCell (a := ⟨p, 4, none⟩) (.inl rfl) _⟩
    rw [HM.out]
    exact (H2.out.drewN q).fails'
  · rw [decide_eq_false hb] at K
    have HM := Lib.hid (show more m fl ys = fl from if_neg hb)
    clear hb
    go_wp2_with (fail)
    with_reducible refine K.out.mono ?_
    rintro e w2 ⟨rfl, q, rfl⟩
    go_wp2
    go_end0
    refine ⟨rfl, ⟨HP.out, by omega, by rw [HM.out]; omega, ?_⟩, T2.out.drewN q⟩
    rw [HM.out]
    exact H2.out.drewN q

/-- A new skipper. -/
def NewSkp (kd : Int) (m n : Nat) (w : World) (e : Ending) (w' : World) : Prop :=
  ∃ p g, e = .returned (.tuple #[.pointer (some ⟨p, 0, none⟩), .int .i64 0]) ∧ w.heap.size ≤ p ∧ w.heap.size ≤ g ∧ Skp kd m n 0 0 w' p g (List.replicate n true) ∧ Below w.heap.size w w'
theorem boxedS {kd : Int} {m n q g : Nat} {W : World} (P : Pat kd (m : Int) (n : Int)) (h : IsRing Value.bool 43 4 [.int .i64 (m : Int)] W q g n 0 (List.replicate n true)) :
    Skp kd m n 0 0 (W.alloc (.cells #[.int .i64 kd, .int .i64 (m : Int), .int .i64 (n : Int), .int .i64 0, .int .i64 0, .int .i64 (m : Int), .slice (some ⟨g, 0, none⟩) n n, .int .i64 0, .int .i64 (n : Int)] 45)) W.heap.size g (List.replicate n true) := by
  obtain ⟨cs, hb, hs⟩ := h.body
  have hlt := hb.lt
  have := P.m1
  have := P.le
  have := P.k2
  refine ⟨P, by omega, by omega, List.length_replicate .., by omega, by omega, by omega, 0, by omega, h.n1, h.n2, h.f1, h.len, ?_, cs, hb.alloc _, hs⟩
  have := Lies.made W 45 #[.int .i64 kd, .int .i64 (m : Int), .int .i64 (n : Int), .int .i64 0, .int .i64 0, .int .i64 (m : Int), .slice (some ⟨g, 0, none⟩) n n, .int .i64 0, .int .i64 (n : Int)]
  rw [List.length_replicate]
  exact this
set_option maxHeartbeats 400000 in
theorem new_no (kd m k : Int) (w : World) (h : rightB kd m k = false) :
    Calls Try.prog 8 #[.int .i64 kd, .int .i64 m, .int .i64 k] w (Says (.tuple #[.pointer none, .int .i64 1]) w) := by
  have KR := rightAny kd m k w
  rw [h] at KR
  have KR := Lib.hid KR
  clear h
  go_enter Try.func8, Try.ntmps8
  go_wp2_with (fail)
  with_reducible refine KR.out.mono ?_
  rintro e w1 ⟨rfl, rfl⟩
  go_wp2
  go_ret2
  exact ⟨rfl, rfl⟩
set_option maxHeartbeats 1000000 in
theorem new {kd : Int} {m n : Nat} (P : Pat kd (m : Int) (n : Int)) (w : World) :
    Calls Try.prog 8 #[.int .i64 kd, .int .i64 (m : Int), .int .i64 (n : Int)] w (NewSkp kd m n w) := by
  have KR := rightAny kd m n w
  rw [P.right] at KR
  have KR := Lib.hid KR
  have KN := Lib.hid (winNew (m := m) (n := n) w (by have := P.m1; omega) (by have := P.le; omega) (by have := P.k2; omega))
  have HP := Lib.hid P
  clear P
  go_enter Try.func8, Try.ntmps8
  go_wp2_with (fail)
  with_reducible refine KR.out.mono ?_
  rintro e w1 ⟨rfl, rfl⟩
  go_wp2_with (fail)
  with_reducible refine KN.out.mono ?_
  rintro e w1 ⟨q, g, rfl, hq, hg, hr, hb⟩
  have HR := Lib.hid hr
  have HB := Lib.hid hb
  have c0 : w1.cell? ⟨q, 0, none⟩ = some (.int .i64 (m : Int)) := by rw [hr.head.cell]; rfl
  have c1 : w1.cell? ⟨q, 1, none⟩ = some (.slice (some ⟨g, 0, none⟩) n n) := IsRing.c0 hr
  have c2 : w1.cell? ⟨q, 2, none⟩ = some (.int .i64 0) := IsRing.c1 hr
  have c3 : w1.cell? ⟨q, 3, none⟩ = some (.int .i64 (n : Int)) := by have := IsRing.c2 hr; rw [List.length_replicate] at this; exact this
  clear hr hb KR KN
  go_wp2
  go_ret2
  exact ⟨w1.heap.size, g, rfl, HB.out.size, hg, boxedS HP.out HR.out, HB.out.alloc HB.out.size _⟩
end Go.Proofs.Ythdjflmligoelaa
