/- A skipper beside a row of the call's own; what a job that is met where it must be leaves. -/
import Derived.Test.YthdjflmligoelaaAp
namespace Go.Proofs.Ythdjflmligoelaa
open Go.RowKit Nu

theorem Skp.below {kd : Int} {m n j fl p g B : Nat} {w w' : World} {xs : List Bool} (h : Skp kd m n j fl w p g xs) (hb : Below B w w') (hp : p < B) (hg : g < B) : Skp kd m n j fl w' p g xs := by
  obtain ⟨a1, a2, a3, a4, a5, a6, a7, f, hr⟩ := h
  exact ⟨a1, a2, a3, a4, a5, a6, a7, f, hr.below hb hp hg⟩
theorem own_turns {w w' : World} {base p q : Nat} {v : Value} {n : Nat} {l : List Value} {e : TypeId} (h : w.ownsRow base e 1 v n l) (ht : Turns p q w w') (hp : p < base) (hq : q < base) : w'.ownsRow base e 1 v n l := by
  refine ⟨h.1, ?_⟩
  rcases h.2 with h2 | ⟨g, cap, cur, rfl, hbb, hg, rest⟩
  · exact .inl h2
  · exact .inr ⟨g, cap, cur, rfl, hbb, Lies.turns (t := e) (cs := cur) hg ht (by omega) (by omega), rest⟩

/-- A skipper that w0 had not, and a row l of k, all of it at B or behind. -/
structure Both (w0 : World) (kd : Int) (m n j fl p g : Nat) (xs : List Bool) (B : Nat) (v : Value) (k : Nat) (l : List Bool) (X : World) : Prop where
  has : Has w0 kd m n j fl p g xs X
  own : X.ownsRow B 4 1 v k (cellsB l)
  lp : p < B
  lg : g < B
  b0 : w0.heap.size ≤ B
  bx : B ≤ X.heap.size
section
variable {w0 X X' : World} {kd : Int} {m n j fl j' fl' p g B k : Nat} {xs ys l : List Bool} {v : Value}
theorem Both.drewN (h : Both w0 kd m n j fl p g xs B v k l X) (q : Nat) : Both w0 kd m n j fl p g xs B v k l (X.drewN q) :=
  ⟨h.has.drewN q, own_tells h.own (below_drewN (Below.refl _ _) q), h.lp, h.lg, h.b0, h.bx⟩
theorem Both.turn (h : Both w0 kd m n j fl p g xs B v k l X) (hw : Skp kd m n j' fl' X' p g ys) (ht : Turns p g X X') : Both w0 kd m n j' fl' p g ys B v k l X' :=
  ⟨h.has.turn hw ht, own_turns h.own ht h.lp h.lg, h.lp, h.lg, h.b0, Nat.le_trans h.bx ht.size⟩
theorem Both.begin (h : Has w0 kd m n j fl p g xs X) : Both w0 kd m n j fl p g xs X.heap.size (.slice none 0 0) 0 [] X :=
  ⟨h, ⟨rfl, .inl ⟨rfl, rfl⟩⟩, h.skp.win.ltp, h.skp.win.ltg, h.below.size, Nat.le_refl _⟩
theorem Both.grow {v2 : Value} {k2 : Nat} {l2 : List Bool} {o : Obj} (h : Both w0 kd m n j fl p g xs B v k l X) (o2 : X'.ownsRow B 4 1 v2 k2 (cellsB l2)) (g2 : (X.alloc o).grownBy X' v.ownBlock) : Both w0 kd m n j fl p g xs B v2 k2 l2 X' := by
  have hb : Below B X X' := ((Below.refl B X).alloc h.bx o).grown g2 (by have := h.bx; simp; omega) (own_from h.own)
  exact ⟨⟨h.has.1, h.has.2.1, h.has.skp.below hb h.lp h.lg, h.has.below.trans (hb.mono h.b0)⟩, o2, h.lp, h.lg, h.b0, Nat.le_trans h.bx hb.size⟩
theorem Both.below (h : Both w0 kd m n j fl p g xs B v k l X) : Below w0.heap.size w0 X := h.has.below
end

/-- It doesn't fail: and so it stays, where a job is met that must be. -/
theorem keeps {m n : Nat} {xs : List Bool} (m1 : 1 ≤ m) (hn : xs.length = n) (n1 : 1 ≤ n) (hd : 0 < dist m xs) (x : Bool) (hx : x = false → 1 < dist m xs) :
    0 < dist m (xs.drop 1 ++ [x]) := by
  match xs, hn with
  | [], hn => simp at hn; omega
  | x0 :: xs, hn =>
    rw [List.drop_succ_cons, List.drop_zero]
    cases x with
    | false =>
      have := hx rfl
      rw [dist_miss m1]
      rw [dist_behind x0 xs hd] at this
      omega
    | true =>
      have h1 : m ≤ mets (x0 :: xs) := by
        have := (dist_fails m1 (x0 :: xs))
        omega
      refine dist_pos m1 ?_
      rw [mets_app]
      simp only [mets] at h1 ⊢
      split at h1 <;> simp <;> omega
theorem more_none {m fl : Nat} {ys : List Bool} (m1 : 1 ≤ m) (hd : 0 < dist m ys) : more m fl ys = fl ∧ ¬ mets ys < m := by
  have h1 : ¬ mets ys < m := by have := dist_fails m1 ys; omega
  exact ⟨if_neg h1, h1⟩
theorem mustB_no {kd : Int} {m n j : Nat} {xs : List Bool} (h : mustB kd m n j xs = false) : must kd (j : Int) (m : Int) (n : Int) = false ∧ 1 < dist m xs := by
  unfold mustB at h
  rw [Bool.or_eq_false_iff, decide_eq_false_iff_not] at h
  exact ⟨h.1, by omega⟩
theorem mustB_hard {kd : Int} {m j : Nat} {xs : List Bool} (m1 : 1 ≤ m) : mustB kd m m j xs = true := by
  unfold mustB
  rw [must_all kd (by omega), Bool.true_or]
theorem lst_more {n : Nat} (n1 : 1 ≤ n) (l : List Bool) (x : Bool) : (lst n l).drop 1 ++ [x] = lst n (l ++ [x]) := (lst_snoc n1 l x).symm
theorem metOwn {w : World} {B n k : Nat} {v : Value} {l : List Bool} (ho : w.ownsRow B 4 1 v k (cellsB l)) (hk : k ≤ 1000) (n2 : n ≤ 64) :
    ∃ A c, v = .slice A k c ∧ Calls Try.prog 10 #[.slice A k c, .int .i64 (n : Int)] w (Says (.int .i64 (mets (lst n l) : Nat)) w) := by
  obtain ⟨hl, A, c, e, hb⟩ := own_bools ho
  exact ⟨A, c, e, refMet hb hl hk n2⟩
end Go.Proofs.Ythdjflmligoelaa
