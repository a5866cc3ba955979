/- Rows of bools that are made by appends; the statements' own 'last' and 'met'. -/
import Derived.Test.YtpmllnfmdgeejaaRo
import Derived.Laws.AppendOwnNone
import Derived.OwnWalk
namespace Go.Proofs.Ytpmllnfmdgeejaa
open Go.RowKit

/-- Bools as cells. -/
def cellsB (l : List Bool) : List Value := l.map Value.bool
theorem length_cellsB (l : List Bool) : (cellsB l).length = l.length := by simp [cellsB]
theorem cellsB_app (x y : List Bool) : cellsB (x ++ y) = cellsB x ++ cellsB y := by simp [cellsB]
theorem cellsB_at {l : List Bool} {j : Nat} {u : Value} (h : (cellsB l)[j]? = some u) : ∃ t, l[j]? = some t ∧ u = .bool t := by
  simp only [cellsB, List.getElem?_map, Option.map_eq_some_iff] at h
  obtain ⟨n, hn, rfl⟩ := h
  exact ⟨n, hn, rfl⟩
theorem below_new (w : World) (o : Obj) : Below w.heap.size w (w.alloc o) := (Below.refl _ _).alloc (Nat.le_refl _) _

theorem append_bools {ops : Array Oper} {rest : List Oper} {o : Oper} {a : Act} {Q : Exit → Act → World → Prop} (w : World) (hgd : o.guard = none) (s x : Operand)
    (ho : o.op = .call { callee := .builtin .append, args := #[s, x], argTypes := #[22, 22] })
    (base : Nat) (v : Value) (n : Nat) (xs : List Bool) (hs : a.eval s = v) (hown : w.ownsRow base 4 1 v n (cellsB xs))
    (A : Option Addr) (m c : Nat) (l : List Bool) (hx : a.eval x = .slice A m c) (hm : l.length = m) (hr : Bools w A c l) (h63 : n + m ≤ 1000) (hbase : base ≤ w.heap.size)
    (h : ∀ v' w', w'.ownsRow base 4 1 v' (n + m) (cellsB (xs ++ l)) → w.grownBy w' v.ownBlock → wpList Try.prog ops Q rest (a.put o.dst v') w') : wpList Try.prog ops Q (o :: rest) a w := by
  obtain ⟨i, hi, hz, h1, h8⟩ := V.info
  rcases A with _ | ad
  · obtain rfl := hr.nil rfl
    obtain rfl : l = [] := List.eq_nil_of_length_eq_zero (by have := hr.le; omega)
    obtain rfl : m = 0 := by rw [← hm]; rfl
    refine wpList_append_own_none hgd s x 22 ho base 4 i 1 Try.underlying22 hi v n (cellsB xs) hs hown hx ?_
    have := h v w (by simpa using hown) ⟨rfl, rfl, rfl, Nat.le_refl _, fun _ _ _ => rfl⟩
    exact this
  · refine wpList_append_own w hgd s x 22 ho base 4 i (.bool false) 1 1 Try.underlying22 hi hz h1 h8 rfl (by decide) v n (cellsB xs) hs hown ad m c (cellsB l) hx (by rw [length_cellsB]; omega) ?_ ?_ (by unfold maxLen; omega) (by omega) hbase ?_
    · intro j u hu
      obtain ⟨t, hj, rfl⟩ := cellsB_at hu
      have hlt := (List.getElem?_eq_some_iff.1 hj).1
      obtain ⟨b, off, e, _, hcell⟩ := hr.form (by omega)
      cases e
      rw [Addr.add_lit]
      exact hcell j t hj
    · intro u hu
      obtain ⟨_, _, rfl⟩ := List.mem_map.1 hu
      rfl
    · intro v' w' h2 h3 _
      exact h v' w' (by rw [cellsB_app]; exact h2) h3

/-- A row of the call's own reads as its bools. -/
theorem own_bools {w : World} {base : Nat} {v : Value} {n : Nat} {l : List Bool} (h : w.ownsRow base 4 1 v n (cellsB l)) : l.length = n ∧ ∃ A c, v = .slice A n c ∧ Bools w A c l := by
  have hl : l.length = n := by have := h.1; rw [length_cellsB] at this; omega
  refine ⟨hl, ?_⟩
  rcases h.2 with ⟨rfl, rfl⟩ | ⟨g, cap, cur, rfl, _, hg, hnc, _, hcs, ht⟩
  · exact ⟨none, 0, rfl, by omega, fun _ => rfl, fun h0 => by omega⟩
  · refine ⟨_, cap, rfl, by omega, (fun h => by cases h), fun h0 => ⟨g, 0, rfl, Lies.lt (t := 4) (cs := cur) hg, fun i t hi => ?_⟩⟩
    have hk := h.cells (g := g) rfl i (.bool t) (by simp [cellsB, hi])
    rw [Addr.add_lit] at hk
    exact hk
/-- The same of a row that isn't empty. -/
theorem own_some {w : World} {base : Nat} {v : Value} {n : Nat} {l : List Bool} (h : w.ownsRow base 4 1 v n (cellsB l)) (h0 : 0 < n) : ∃ b c, v = .slice (some ⟨b, 0, none⟩) n c ∧ base ≤ b ∧ n ≤ c ∧ Bools w (some ⟨b, 0, none⟩) c l := by
  obtain ⟨hl, A, c, e, hb⟩ := own_bools h
  rcases h.2 with ⟨_, rfl⟩ | ⟨g, cap, cur, rfl, hbb, hg, hnc, _, hcs, ht⟩
  · omega
  · cases e
    exact ⟨g, c, rfl, hbb, hnc, hb⟩
theorem own_from {w : World} {base : Nat} {v : Value} {n : Nat} {l : List Value} {e : TypeId} (h : w.ownsRow base e 1 v n l) : ∀ k, v.ownBlock = some k → base ≤ k := by
  intro k hk
  rcases h.2 with ⟨rfl, rfl⟩ | ⟨g, cap, cur, rfl, hbb, _⟩
  · cases hk
  · cases hk; exact hbb
/-- A literal of one bool reads so. -/
theorem one_bool (w : World) (x : Bool) : Bools (w.alloc (.cells #[.bool x] 4)) (some ⟨w.heap.size, 0, none⟩) 1 [x] := by
  refine ⟨Nat.le_refl _, (fun h => by cases h), fun _ => ⟨w.heap.size, 0, rfl, by simp, fun i t hi => ?_⟩⟩
  have hj : i = 0 := by have := (List.getElem?_eq_some_iff.1 hi).1; simp at this; omega
  subst hj
  have : x = t := by simpa using hi
  subst this
  rw [(Lies.made w 4 #[.bool x]).cell]; rfl
theorem Bools.take {w : World} {a : Option Addr} {cap : Nat} {l : List Bool} (h : Bools w a cap l) (k : Nat) : Bools w a cap (l.take k) := by
  refine ⟨Nat.le_trans (by rw [List.length_take]; omega) h.le, h.nil, fun h0 => ?_⟩
  rw [List.length_take] at h0
  obtain ⟨b, off, e, hb, hc⟩ := h.form (by omega)
  refine ⟨b, off, e, hb, fun i t hi => hc i t ?_⟩
  rw [List.getElem?_take] at hi
  split at hi
  · exact hi
  · cases hi
theorem Bools.drop {w : World} {b off cap : Nat} {l : List Bool} (h : Bools w (some ⟨b, off, none⟩) cap l) (k : Nat) (hk : k ≤ l.length) : Bools w (some ⟨b, off + k, none⟩) (cap - k) (l.drop k) := by
  refine ⟨by have := h.le; rw [List.length_drop]; omega, (fun h => by cases h), fun h0 => ?_⟩
  rw [List.length_drop] at h0
  obtain ⟨b', off', e, hb, hc⟩ := h.form (by omega)
  cases e
  refine ⟨b, off + k, rfl, hb, fun i t hi => ?_⟩
  rw [List.getElem?_drop] at hi
  rw [Nat.add_assoc]; exact hc _ t hi

def CountRel (xs : List Bool) (w : World) (c i : Value) (W : World) : Prop :=
  ∃ k : Nat, k ≤ xs.length ∧ i = .int .i64 (k : Int) ∧ c = .int .i64 ((mets (xs.take k) : Nat) : Int) ∧ W = w
set_option maxHeartbeats 1000000 in
theorem refMet {A : Option Addr} {c : Nat} {xs : List Bool} {w : World} (h : Bools w A c xs) (hl : xs.length ≤ 1000) :
    Calls Try.prog 13 #[.slice A xs.length c] w (Says (.int .i64 (mets xs : Nat)) w) := by
  have H := Lib.hid h
  clear h
  go_enter Try.func13, Try.ntmps13
  go_wp2
  go_loopw [3, 4] (fun c i W => CountRel xs w c i W) (fun _ i _ => xs.length - (intOf i).toNat)
  case atStart => exact ⟨0, by omega, rfl, by simp [mets], rfl⟩
  case round =>
    obtain ⟨k, hk, rfl, rfl, rfl⟩ := hrel
    by_cases hlt : k < xs.length
    · have t1 : decide ((k : Int) < (xs.length : Int)) = true := by simp; omega
      have hx : xs[k]? = some xs[k] := by simp
      have hm := mets_le (xs.take k)
      have hm2 : (xs.take k).length ≤ 1000 := by rw [List.length_take]; omega
      have HM := Lib.hid (mets_at hx).1
      obtain ⟨b, off, rfl, hb, hc⟩ := H.out.form (by omega)
      have ck := hc k _ hx
      clear hx hc
      generalize xs[k] = x at HM ck
      generalize mets (xs.take k) = d at hm HM
      cases x
      · go_wp2
        go_roundw
        case rel => exact ⟨k + 1, by omega, by go_num, by rw [HM.out]; simp, rfl⟩
        case measure => simp [intOf]; omega
      · go_wp2
        go_roundw
        case rel => exact ⟨k + 1, by omega, by go_num, by rw [HM.out]; go_num, rfl⟩
        case measure => simp [intOf]; omega
    · have t1 : decide ((k : Int) < (xs.length : Int)) = false := by simp; omega
      have t2 : decide (k < xs.length) = false := by simp; omega
      obtain rfl : k = xs.length := by omega
      rw [List.take_length]
      go_wp2
      go_ret
      exact ⟨rfl, rfl⟩

/-- It answers the list, in a row of the call's own, somewhere in its block. -/
def NewTail (xs : List Bool) (w : World) (e : Ending) (w' : World) : Prop :=
  ∃ b off cap, e = .returned (.slice (some ⟨b, off, none⟩) xs.length cap) ∧ w.heap.size ≤ b ∧ Bools w' (some ⟨b, off, none⟩) cap xs ∧ Below w.heap.size w w'
def GrowRel (n : Nat) (w : World) (v i : Value) (W : World) : Prop :=
  ∃ (k : Nat) (X : World), k ≤ n ∧ i = .int .i64 (k : Int) ∧ X = W ∧ X.ownsRow w.heap.size 4 1 v k (cellsB (List.replicate k true)) ∧ Below w.heap.size w X
set_option maxHeartbeats 4000000 in
theorem refLast {A : Option Addr} {c n : Nat} {l : List Bool} (w : World) (h : Bools w A c l) (hl : l.length ≤ 500) (n1 : 1 ≤ n) (n2 : n ≤ 64) :
    Calls Try.prog 10 #[.slice A l.length c, .int .i64 (n : Int)] w (NewTail (lst n l) w) := by
  have H := Lib.hid h
  clear h
  go_enter Try.func10, Try.ntmps10
  go_wp2
  go_loopw [5, 6] (fun v i W => GrowRel n w v i W) (fun _ i _ => n - (intOf i).toNat)
  case atStart => exact ⟨0, _, by omega, rfl, rfl, ⟨rfl, .inl ⟨rfl, rfl⟩⟩, Below.refl _ _⟩
  case round =>
    obtain ⟨k, X, hk, rfl, rfl, ho, hb⟩ := hrel
    have HO := Lib.hid ho
    have HB := Lib.hid hb
    clear ho hb
    by_cases hlt : k < n
    · have t1 : decide ((k : Int) < (n : Int)) = true := by simp; omega
      go_wp2_with (at_builtin; first
        | (refine append_bools _ rfl _ _ rfl w.heap.size _ k (List.replicate k true) rfl (HO.out.alloc _) _ 1 1 [true] rfl rfl (one_bool X true) (by omega) (by have := HB.out.size; simp; omega) ?_
           intro v2 w2 o2 g2
           have hs := HB.out.size
           have H2 : Hid (GrowRel n w v2 (.int .i64 ((k : Int) + 1)) w2) := Lib.hid ⟨k + 1, _, by omega, by go_num, rfl, by rw [← replicate_snoc]; exact o2, (HB.out.alloc hs _).grown g2 (by simp; omega) (own_from HO.out)⟩
           clear o2 g2 hs))
      go_roundw
      case rel => exact H2.out
      case measure => simp [intOf]; omega
    · have t1 : decide ((k : Int) < (n : Int)) = false := by simp; omega
      obtain rfl : k = n := by omega
      have HA := Lib.hid (H.out.below (Nat.le_refl _) HB.out)
      go_wp2_with (at_builtin; first
        | (refine append_bools _ rfl _ _ rfl w.heap.size _ k (List.replicate k true) rfl HO.out _ l.length _ l rfl rfl HA.out (by omega) HB.out.size ?_
           intro v2 w2 o2 g2
           have HB2 := Lib.hid (HB.out.grown g2 HB.out.size (own_from HO.out))
           obtain ⟨b, c2, rfl, hb, hc, hbl⟩ := own_some o2 (by omega)
           have HL := Lib.hid hbl
           clear o2 g2 hbl))
      rw [show k + l.length - k = l.length by omega, show k + l.length - l.length = k by omega]
      go_ret
      have hd := HL.out.drop l.length (by simp)
      rw [Nat.zero_add] at hd
      exact ⟨b, l.length, c2 - l.length, by rw [length_lst]; rfl, hb, hd, HB2.out⟩
end Go.Proofs.Ytpmllnfmdgeejaa
