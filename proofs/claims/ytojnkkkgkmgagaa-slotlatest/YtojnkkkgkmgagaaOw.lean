/- Rows of acts and of numbers of the call's own beside a table; what was reserved, and where. -/
import Derived.Test.YtojnkkkgkmgagaaC1
import Derived.Laws.AppendOwnNone
import Derived.OwnWalk
namespace Go.Proofs.Ytojnkkkgkmgagaa
open Go.RowKit

theorem actInfo' : ((Try.prog.info? 31).map fun i => (i.zero, i.size, i.bytes)) = some (some (.agg #[.int .i64 0, .int .i64 0, .int .i64 0, .int .i64 0, .int .i64 0, .int .i64 0]), 6, 48) := by kernel_rfl
theorem actInfo : ∃ i, Try.prog.info? 31 = some i ∧ i.zero = some (.agg #[.int .i64 0, .int .i64 0, .int .i64 0, .int .i64 0, .int .i64 0, .int .i64 0]) ∧ i.size = 6 ∧ i.bytes = 48 := by
  obtain ⟨i, hi, h⟩ := Option.map_eq_some_iff.1 actInfo'
  simp only [Prod.mk.injEq] at h
  exact ⟨i, hi, h.1, h.2.1, h.2.2⟩
theorem intInfo' : ((Try.prog.info? 3).map fun i => (i.zero, i.size, i.bytes)) = some (some (.int .i64 0), 1, 8) := by kernel_rfl
theorem intInfo : ∃ i, Try.prog.info? 3 = some i ∧ i.zero = some (.int .i64 0) ∧ i.size = 1 ∧ i.bytes = 8 := by
  obtain ⟨i, hi, h⟩ := Option.map_eq_some_iff.1 intInfo'
  simp only [Prod.mk.injEq] at h
  exact ⟨i, hi, h.1, h.2.1, h.2.2⟩
def flatA : List Ac → List Value
  | [] => []
  | t :: l => cellsA t ++ flatA l
theorem flatA_append : ∀ x y, flatA (x ++ y) = flatA x ++ flatA y
  | [], y => rfl
  | t :: x, y => by simp only [List.cons_append, flatA]; rw [flatA_append x y, List.append_assoc]
theorem length_flatA : ∀ l, (flatA l).length = l.length * 6
  | [] => rfl
  | t :: l => by simp [flatA, cellsA, length_flatA l]; omega
theorem flatA_at : ∀ {l : List Ac} {i : Nat} {t : Ac} (j : Nat) (v : Value), l[i]? = some t → (cellsA t)[j]? = some v → (flatA l)[i * 6 + j]? = some v
  | [], i, t, j, v, h, _ => by simp at h
  | q :: l, 0, t, j, v, h, hv => by
    simp at h; subst h
    have hj : j < (cellsA q).length := (List.getElem?_eq_some_iff.1 hv).1
    rw [flatA, Nat.zero_mul, Nat.zero_add, List.getElem?_append_left hj]; exact hv
  | q :: l, i + 1, t, j, v, h, hv => by
    rw [flatA, List.getElem?_append_right (by simp [cellsA]; omega), show (i + 1) * 6 + j - (cellsA q).length = i * 6 + j by simp [cellsA]; omega]
    exact flatA_at j v (by simpa using h) hv
theorem one_cellsA (t : Ac) : ∀ u ∈ cellsA t, u.oneCell' = true := by
  intro u hu
  simp only [cellsA, List.mem_cons, List.not_mem_nil, or_false] at hu
  rcases hu with rfl | rfl | rfl | rfl | rfl | rfl <;> rfl
def cellsI (l : List Int) : List Value := l.map (Value.int .i64)
theorem cellsI_at {l : List Int} {j : Nat} {t : Int} (h : l[j]? = some t) : (cellsI l)[j]? = some (.int .i64 t) := by simp [cellsI, h]

section
variable {X X' : World} {B n : Nat} {ety : TypeId} {size : Nat} {v : Value} {cs : List Value}
theorem own_type (h : X.ownsRow B ety size v n cs) {k : Nat} (hk : v.ownBlock = some k) : B ≤ k ∧ k < X.heap.size ∧ ∃ cur, X.heap[k]? = some (.cells cur ety (0, 0)) := by
  rcases h.2 with ⟨rfl, _⟩ | ⟨g, cap, cur, rfl, hb, hg, _⟩
  · cases hk
  · have : g = k := by simpa [Value.ownBlock] using hk
    subst this
    exact ⟨hb, (Array.getElem?_eq_some_iff.1 hg).1, cur, hg⟩
theorem own_turns {S : Nat → Prop} (h : X.ownsRow B ety size v n cs) (ht : Turns S X X') (hS : ∀ k, v.ownBlock = some k → ¬ S k) : X'.ownsRow B ety size v n cs :=
  own_same h (fun k hk => ht.block k (own_type h hk).2.1 (hS k hk))
theorem own_grown {row : Option Nat} (h : X.ownsRow B ety size v n cs) (hg : X.grownBy X' row) (hr : ∀ k, row = some k → v.ownBlock ≠ some k) : X'.ownsRow B ety size v n cs :=
  own_same h (fun k hk => hg.block k (own_type h hk).2.1 (fun e => hr k e.symm hk))
theorem own_below (h : X.ownsRow B ety size v n cs) (hb : Below X.heap.size X X') : X'.ownsRow B ety size v n cs :=
  own_same h (fun k hk => hb.block k (own_type h hk).2.1)
/-- Rows of unlike types lie apart. -/
theorem own_unlike {B' n' size' : Nat} {ety' : TypeId} {v' : Value} {cs' : List Value} (h : X.ownsRow B ety size v n cs) (h' : X.ownsRow B' ety' size' v' n' cs') (hne : ety ≠ ety') {k : Nat} (hk : v.ownBlock = some k) : v'.ownBlock ≠ some k := fun hk' => by
  obtain ⟨_, _, cur, e⟩ := own_type h hk
  obtain ⟨_, _, cur', e'⟩ := own_type h' hk'
  rw [e] at e'
  cases e'
  exact hne rfl
end
section
variable {w X X' : World} {p room B n : Nat} {g : Option Nat} {m : List Ky} {ety : TypeId} {size : Nat} {v : Value} {cs : List Value}
theorem Has.apart (h : Has w p room g m X) (ho : X.ownsRow B ety size v n cs) (h1 : ety ≠ 49) (h2 : ety ≠ 33) (k : Nat) (hk : v.ownBlock = some k) : ¬ (k = p ∨ g = some k) := by
  obtain ⟨_, _, cur, e⟩ := own_type ho hk
  obtain ⟨u, rfl, ht⟩ := h.tab
  rintro (rfl | hg)
  · have := ht.obj
    unfold Lies at this
    rw [e] at this
    cases this
    exact h1 rfl
  · obtain ⟨_, _, cur', e'⟩ := own_type ht.own hg
    rw [e] at e'
    cases e'
    exact h2 rfl
theorem Has.grown {row : Option Nat} (h : Has w p room g m X) (hg : X.grownBy X' row) (hr : ∀ k, row = some k → ¬ (k = p ∨ g = some k) ∧ w.heap.size ≤ k) : Has w p room g m X' :=
  ⟨h.tab.same hg.size (fun k hk => hg.block k (h.tab.lt hk).2 (fun e => (hr k e.symm).1 hk)), h.below.grown hg h.below.size (fun k hk => (hr k hk).2)⟩
end

/-! What was reserved, and where. -/
abbrev Rv := Ac × Int
def slQ (q : Rv) : Ky := (q.1.2.1, q.1.2.2.1, q.2, q.2 + q.1.2.2.2.1)
def Fit (q : Rv) : Prop := Rgt q.1.2.2.2.1 q.1.2.2.2.2.1 q.1.2.2.2.2.2 ∧ q.1.2.2.2.2.1 ≤ q.2 ∧ q.2 + q.1.2.2.2.1 ≤ q.1.2.2.2.2.2
theorem resE_zero {room : Nat} {m : List Ky} {id gr n fr en : Int} (h : resE room m id gr n fr en = 0) : Rgt n fr en ∧ id ∉ m.map idK ∧ m.length < room ∧ fr ≤ lat m gr n en := by
  unfold resE at h
  split at h
  · rename_i hr
    split at h
    · cases h
    · rename_i hid
      split at h
      · cases h
      · split at h
        · cases h
        · exact ⟨rgt_iff.1 hr, hid, by omega, by omega⟩
  · cases h
theorem fit_new {room : Nat} {m : List Ky} {x : Ac} (h : resE room m x.2.1 x.2.2.1 x.2.2.2.1 x.2.2.2.2.1 x.2.2.2.2.2 = 0) :
    Fit (x, resP room m x.2.1 x.2.2.1 x.2.2.2.1 x.2.2.2.2.1 x.2.2.2.2.2) ∧ resM room m x.2.1 x.2.2.1 x.2.2.2.1 x.2.2.2.2.1 x.2.2.2.2.2 = putK m (slQ (x, resP room m x.2.1 x.2.2.1 x.2.2.2.1 x.2.2.2.2.1 x.2.2.2.2.2)) := by
  obtain ⟨h1, h2, h3, h4⟩ := resE_zero h
  have hP : resP room m x.2.1 x.2.2.1 x.2.2.2.1 x.2.2.2.2.1 x.2.2.2.2.2 = lat m x.2.2.1 x.2.2.2.1 x.2.2.2.2.2 := by unfold resP; rw [if_pos h]
  have hM : resM room m x.2.1 x.2.2.1 x.2.2.2.1 x.2.2.2.2.1 x.2.2.2.2.2 = putK m (x.2.1, x.2.2.1, lat m x.2.2.1 x.2.2.2.1 x.2.2.2.2.2, lat m x.2.2.1 x.2.2.2.1 x.2.2.2.2.2 + x.2.2.2.1) := by unfold resM; rw [if_pos h]
  rw [hP, hM]
  refine ⟨⟨h1, h4, ?_⟩, rfl⟩
  have := lat_le x.2.2.1 x.2.2.2.1 (x.2.2.2.2.2 - x.2.2.2.1) m
  simp only [lat]
  omega
/-- Slots of a good row lie apart from those ahead of them. -/
theorem good_apart {m : List Ky} (h : Good m) {i : Nat} {s : Ky} (hs : m[i]? = some s) : apB (m.take i) s = true := by
  refine apB_yes fun j x hj => ?_
  have hji : j < i := by
    have := (List.getElem?_eq_some_iff.1 hj).1
    simp at this; omega
  rw [List.getElem?_take, if_pos hji] at hj
  obtain ⟨l1, e1⟩ := List.getElem?_eq_some_iff.1 hj
  obtain ⟨l2, e2⟩ := List.getElem?_eq_some_iff.1 hs
  have ha := List.pairwise_iff_getElem.1 h.ap j i l1 l2 hji
  rw [e1, e2] at ha
  unfold hitB
  by_cases hg : x.2.1 = s.2.1
  · rcases ha hg with h1 | h1
    · rw [decide_eq_false (show ¬ s.2.2.1 < x.2.2.2 by omega), Bool.and_false]
    · rw [decide_eq_false (show ¬ x.2.2.1 < s.2.2.2 by omega), Bool.and_false, Bool.false_and]
  · rw [show (x.2.1 == s.2.1) = false by simpa using hg]; rfl
theorem good_order {m : List Ky} (h : Good m) {i : Nat} {s x : Ky} (hs : m[i + 1]? = some s) (hx : m[i]? = some x) : ¬ s.2.2.1 < x.2.2.1 := by
  obtain ⟨l1, e1⟩ := List.getElem?_eq_some_iff.1 hx
  obtain ⟨l2, e2⟩ := List.getElem?_eq_some_iff.1 hs
  have ha := List.pairwise_iff_getElem.1 h.srt i (i + 1) l1 l2 (by omega)
  rw [e1, e2] at ha
  unfold Lt at ha
  omega
/-- What was freed can be reserved again, there or later. -/
theorem again {m : List Ky} {q : Rv} (h : Good m) (hq : slQ q ∈ m) (hf : Fit q) (hl : m.length ≤ 256) :
    resE 256 (wo m q.1.2.1) q.1.2.1 q.1.2.2.1 q.1.2.2.2.1 q.1.2.2.2.2.1 q.1.2.2.2.2.2 = 0 ∧ q.2 ≤ resP 256 (wo m q.1.2.1) q.1.2.1 q.1.2.2.1 q.1.2.2.2.1 q.1.2.2.2.2.1 q.1.2.2.2.2.2 ∧
    (resM 256 (wo m q.1.2.1) q.1.2.1 q.1.2.2.1 q.1.2.2.2.1 q.1.2.2.2.2.1 q.1.2.2.2.2.2).length = m.length := by
  obtain ⟨hr, h1, h2⟩ := hf
  have hid : q.1.2.1 ∈ m.map idK := List.mem_map.2 ⟨slQ q, hq, rfl⟩
  have hlen := wo_length h.ids hid
  have hlat : q.2 ≤ lat (wo m q.1.2.1) q.1.2.2.1 q.1.2.2.2.1 q.1.2.2.2.2.2 := by
    rcases Int.lt_or_le (lat (wo m q.1.2.1) q.1.2.2.1 q.1.2.2.2.1 q.1.2.2.2.2.2) q.2 with hlt | hge
    · obtain ⟨s, hs, hfr⟩ := lat_most _ _ _ _ q.2 hlt (by omega)
      obtain ⟨hsm, hsi⟩ := wo_mem.1 hs
      refine absurd (fun hg => ?_) hfr
      have hne : s ≠ slQ q := fun e => hsi (by rw [e]; rfl)
      obtain ⟨i, hi⟩ := List.getElem?_of_mem hsm
      obtain ⟨j, hj⟩ := List.getElem?_of_mem hq
      obtain ⟨l1, e1⟩ := List.getElem?_eq_some_iff.1 hi
      obtain ⟨l2, e2⟩ := List.getElem?_eq_some_iff.1 hj
      rcases Nat.lt_trichotomy i j with hij | hij | hij
      · have := List.pairwise_iff_getElem.1 h.ap i j l1 l2 hij
        rw [e1, e2] at this
        exact this hg
      · subst hij
        rw [hi] at hj
        cases hj
        exact absurd rfl hne
      · have := List.pairwise_iff_getElem.1 h.ap j i l2 l1 hij
        rw [e1, e2] at this
        exact (this hg.symm).symm
    · exact hge
  have hE : resE 256 (wo m q.1.2.1) q.1.2.1 q.1.2.2.1 q.1.2.2.2.1 q.1.2.2.2.2.1 q.1.2.2.2.2.2 = 0 := by
    unfold resE
    rw [if_pos (rgt_iff.2 hr), if_neg wo_ids, if_neg (by omega), if_neg (by omega)]
  refine ⟨hE, ?_, ?_⟩
  · unfold resP; rw [if_pos hE]; exact hlat
  · unfold resM; rw [if_pos hE, length_put]; exact hlen
end Go.Proofs.Ytojnkkkgkmgagaa
