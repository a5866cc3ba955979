/- Rows of bools that are made by appends; how many of the last ones were met, by the statements' own. -/
import Derived.Test.YthdjflmligoelaaAw
import Derived.Laws.AppendOwnNone
import Derived.OwnWalk
namespace Go.Proofs.Ythdjflmligoelaa
open Go.RowKit

/-- Bools as cells. -/
def cellsB (l : List Bool) : List Value := l.map Value.bool
theorem length_cellsB (l : List Bool) : (cellsB l).length = l.length := by simp [cellsB]
theorem cellsB_app (x y : List Bool) : cellsB (x ++ y) = cellsB x ++ cellsB y := by simp [cellsB]
theorem cellsB_at {l : List Bool} {j : Nat} {u : Value} (h : (cellsB l)[j]? = some u) : ∃ t, l[j]? = some t ∧ u = .bool t := by
  simp only [cellsB, List.getElem?_map, Option.map_eq_some_iff] at h
  obtain ⟨n, hn, rfl⟩ := h
  exact ⟨n, hn, rfl⟩
theorem below_new (w : World) (o : Obj) : Below w.heap.size w (w.alloc o) := (Below.refl _ _).alloc (Nat.le_refl _) _

theorem append_bools {ops : Array Oper} {rest : List Oper} {o : Oper} {a : Act} {Q : Exit → Act → World → Prop} (w : World) (hgd : o.guard = none) (s x : Operand)
    (ho : o.op = .call { callee := .builtin .append, args := #[s, x], argTypes := #[22, 22] })
    (base : Nat) (v : Value) (n : Nat) (xs : List Bool) (hs : a.eval s = v) (hown : w.ownsRow base 4 1 v n (cellsB xs))
    (A : Option Addr) (m c : Nat) (l : List Bool) (hx : a.eval x = .slice A m c) (hm : l.length = m) (hr : Bools w A c l) (h63 : n + m ≤ 1000) (hbase : base ≤ w.heap.size)
    (h : ∀ v' w', w'.ownsRow base 4 1 v' (n + m) (cellsB (xs ++ l)) → w.grownBy w' v.ownBlock → wpList Try.prog ops Q rest (a.put o.dst v') w') : wpList Try.prog ops Q (o :: rest) a w := by
  obtain ⟨i, hi, hz, h1, h8⟩ := V.info
  rcases A with _ | ad
  · obtain rfl := hr.nil rfl
    obtain rfl : l = [] := List.eq_nil_of_length_eq_zero (by have := hr.le; omega)
    obtain rfl : m = 0 := by rw [← hm]; rfl
    refine wpList_append_own_none hgd s x 22 ho base 4 i 1 Try.underlying22 hi v n (cellsB xs) hs hown hx ?_
    have := h v w (by simpa using hown) ⟨rfl, rfl, rfl, Nat.le_refl _, fun _ _ _ => rfl⟩
    exact this
  · refine wpList_append_own w hgd s x 22 ho base 4 i (.bool false) 1 1 Try.underlying22 hi hz h1 h8 rfl (by decide) v n (cellsB xs) hs hown ad m c (cellsB l) hx (by rw [length_cellsB]; omega) ?_ ?_ (by unfold maxLen; omega) (by omega) hbase ?_
    · intro j u hu
      obtain ⟨t, hj, rfl⟩ := cellsB_at hu
      have hlt := (List.getElem?_eq_some_iff.1 hj).1
      obtain ⟨b, off, e, _, hcell⟩ := hr.form (by omega)
      cases e
      rw [Addr.add_lit]
      exact hcell j t hj
    · intro u hu
      obtain ⟨_, _, rfl⟩ := List.mem_map.1 hu
      rfl
    · intro v' w' h2 h3 _
      exact h v' w' (by rw [cellsB_app]; exact h2) h3

/-- A row of the call's own reads as its bools. -/
theorem own_bools {w : World} {base : Nat} {v : Value} {n : Nat} {l : List Bool} (h : w.ownsRow base 4 1 v n (cellsB l)) : l.length = n ∧ ∃ A c, v = .slice A n c ∧ Bools w A c l := by
  have hl : l.length = n := by have := h.1; rw [length_cellsB] at this; omega
  refine ⟨hl, ?_⟩
  rcases h.2 with ⟨rfl, rfl⟩ | ⟨g, cap, cur, rfl, _, hg, hnc, _, hcs, ht⟩
  · exact ⟨none, 0, rfl, by omega, fun _ => rfl, fun h0 => by omega⟩
  · refine ⟨_, cap, rfl, by omega, (fun h => by cases h), fun h0 => ⟨g, 0, rfl, Lies.lt (t := 4) (cs := cur) hg, fun i t hi => ?_⟩⟩
    have hk := h.cells (g := g) rfl i (.bool t) (by simp [cellsB, hi])
    rw [Addr.add_lit] at hk
    exact hk
/-- The same of a row that isn't empty. -/
theorem own_some {w : World} {base : Nat} {v : Value} {n : Nat} {l : List Bool} (h : w.ownsRow base 4 1 v n (cellsB l)) (h0 : 0 < n) : ∃ b c, v = .slice (some ⟨b, 0, none⟩) n c ∧ base ≤ b ∧ n ≤ c ∧ Bools w (some ⟨b, 0, none⟩) c l := by
  obtain ⟨hl, A, c, e, hb⟩ := own_bools h
  rcases h.2 with ⟨_, rfl⟩ | ⟨g, cap, cur, rfl, hbb, hg, hnc, _, hcs, ht⟩
  · omega
  · cases e
    exact ⟨g, c, rfl, hbb, hnc, hb⟩
theorem own_from {w : World} {base : Nat} {v : Value} {n : Nat} {l : List Value} {e : TypeId} (h : w.ownsRow base e 1 v n l) : ∀ k, v.ownBlock = some k → base ≤ k := by
  intro k hk
  rcases h.2 with ⟨rfl, rfl⟩ | ⟨g, cap, cur, rfl, hbb, _⟩
  · cases hk
  · cases hk; exact hbb
/-- A literal of one bool reads so. -/
theorem one_bool (w : World) (x : Bool) : Bools (w.alloc (.cells #[.bool x] 4)) (some ⟨w.heap.size, 0, none⟩) 1 [x] := by
  refine ⟨Nat.le_refl _, (fun h => by cases h), fun _ => ⟨w.heap.size, 0, rfl, by simp, fun i t hi => ?_⟩⟩
  have hj : i = 0 := by have := (List.getElem?_eq_some_iff.1 hi).1; simp at this; omega
  subst hj
  have : x = t := by simpa using hi
  subst this
  rw [(Lies.made w 4 #[.bool x]).cell]; rfl
theorem Bools.take {w : World} {a : Option Addr} {cap : Nat} {l : List Bool} (h : Bools w a cap l) (k : Nat) : Bools w a cap (l.take k) := by
  refine ⟨Nat.le_trans (by rw [List.length_take]; omega) h.le, h.nil, fun h0 => ?_⟩
  rw [List.length_take] at h0
  obtain ⟨b, off, e, hb, hc⟩ := h.form (by omega)
  refine ⟨b, off, e, hb, fun i t hi => hc i t ?_⟩
  rw [List.getElem?_take] at hi
  split at hi
  · exact hi
  · cases hi
theorem Bools.drop {w : World} {b off cap : Nat} {l : List Bool} (h : Bools w (some ⟨b, off, none⟩) cap l) (k : Nat) (hk : k ≤ l.length) : Bools w (some ⟨b, off + k, none⟩) (cap - k) (l.drop k) := by
  refine ⟨by have := h.le; rw [List.length_drop]; omega, (fun h => by cases h), fun h0 => ?_⟩
  rw [List.length_drop] at h0
  obtain ⟨b', off', e, hb, hc⟩ := h.form (by omega)
  cases e
  refine ⟨b, off + k, rfl, hb, fun i t hi => ?_⟩
  rw [List.getElem?_drop] at hi
  rw [Nat.add_assoc]; exact hc _ t hi

theorem own_tells {w w' : World} {base : Nat} {v : Value} {n : Nat} {l : List Value} {e : TypeId} (h : w.ownsRow base e 1 v n l) (hb : Below w.heap.size w w') : w'.ownsRow base e 1 v n l := by
  refine ⟨h.1, ?_⟩
  rcases h.2 with h2 | ⟨g, cap, cur, rfl, hbb, hg, rest⟩
  · exact .inl h2
  · exact .inr ⟨g, cap, cur, rfl, hbb, Lies.below (t := e) (cs := cur) hg hb (Lies.lt (t := e) (cs := cur) hg), rest⟩

/-- The one that is j ahead of the last. -/
theorem lst_at {n j : Nat} (l : List Bool) (hj : j < n) : (lst n l)[n - (j + 1)]? = if l.length ≤ j then some true else l[l.length - (j + 1)]? := by
  unfold lst
  rw [List.getElem?_drop]
  split
  · rw [List.getElem?_append_left (by simp; omega), List.getElem?_replicate, if_pos (by omega)]
  · rw [List.getElem?_append_right (by simp; omega), List.length_replicate]
    congr 1
    omega

def CountRel (xs : List Bool) (n : Nat) (w : World) (c i : Value) (W : World) : Prop :=
  ∃ j : Nat, j ≤ n ∧ i = .int .i64 ((j : Int) + 1) ∧ c = .int .i64 ((mets (xs.drop (n - j)) : Nat) : Int) ∧ W = w
set_option maxHeartbeats 1000000 in
theorem refMet {A : Option Addr} {c N n : Nat} {l : List Bool} {w : World} (h : Bools w A c l) (hN : l.length = N) (hl : N ≤ 1000) (n2 : n ≤ 64) :
    Calls Try.prog 10 #[.slice A N c, .int .i64 (n : Int)] w (Says (.int .i64 (mets (lst n l) : Nat)) w) := by
  have H := Lib.hid h
  have HL := Lib.hid (fun j (hj : j < n) => lst_at l hj)
  have hlen := length_lst n l
  obtain ⟨xs, hxs⟩ : ∃ xs, xs = lst n l := ⟨_, rfl⟩
  rw [← hxs] at HL hlen ⊢
  clear h hxs
  go_enter Try.func10, Try.ntmps10
  go_wp2
  go_loopw [5, 6] (fun c i W => CountRel xs n w c i W) (fun _ i _ => n + 1 - (intOf i).toNat)
  case atStart => exact ⟨0, by omega, rfl, by rw [List.drop_eq_nil_of_le (by omega)]; rfl, rfl⟩
  case round =>
    obtain ⟨j, hj, rfl, rfl, rfl⟩ := hrel
    by_cases hlt : j < n
    · have t1 : decide ((j : Int) + 1 ≤ (n : Int)) = true := by simp; omega
      have hx : xs[n - (j + 1)]? = some (xs[n - (j + 1)]'(by omega)) := by simp
      have hw := HL.out j hlt
      rw [hx] at hw
      have hm := mets_le (xs.drop (n - j))
      have hm2 : (xs.drop (n - j)).length ≤ 64 := by rw [List.length_drop]; omega
      have HM := (mets_at hx).2
      rw [show n - (j + 1) + 1 = n - j by omega] at HM
      have HM := Lib.hid HM
      clear hx
      generalize xs[n - (j + 1)]'_ = x at HM hw
      generalize mets (xs.drop (n - j)) = d at hm HM
      by_cases hs : l.length ≤ j
      · rw [if_pos hs] at hw
        cases hw
        have t2 : decide ((N : Int) - ((j : Int) + 1) < 0) = true := by simp; omega
        go_wp2
        go_roundw
        case rel => exact ⟨j + 1, by omega, by go_num, by rw [HM.out]; go_num, rfl⟩
        case measure => simp [intOf]; omega
      · rw [if_neg hs] at hw
        obtain ⟨b, off, rfl, hb, hc⟩ := H.out.form (by omega)
        have ck := hc _ x hw.symm
        rw [hN] at ck
        have t2 : decide (((N - (j + 1) : Nat) : Int) < 0) = false := by simp
        have hiN : N - (j + 1) < N := by omega
        clear hc hw
        cases x
        · go_wp2
          go_roundw
          case rel => exact ⟨j + 1, by omega, by go_num, by rw [HM.out]; simp, rfl⟩
          case measure => simp [intOf]; omega
        · go_wp2
          go_roundw
          case rel => exact ⟨j + 1, by omega, by go_num, by rw [HM.out]; go_num, rfl⟩
          case measure => simp [intOf]; omega
    · have t1 : decide ((j : Int) + 1 ≤ (n : Int)) = false := by simp; omega
      obtain rfl : j = n := by omega
      rw [Nat.sub_self, List.drop_zero]
      go_wp2
      go_ret
      exact ⟨rfl, rfl⟩
end Go.Proofs.Ythdjflmligoelaa
