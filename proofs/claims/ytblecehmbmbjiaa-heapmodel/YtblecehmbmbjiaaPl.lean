/- A heap's block: how many keys there is room for, how many there are, the places; a key's place by its Id. -/
import Derived.Test.YtblecehmbmbjiaaLf
import Derived.Test.YtblecehmbmbjiaaHf
import Derived.Deep.MidRow
import Derived.IntWalk
namespace Go.Proofs.Ytblecehmbmbjiaa
open Go.RowKit

/-- At p: room for so many, t taken; the keys in the first places are l. -/
def Pl (w : World) (p room t : Nat) (l : List Ky) : Prop :=
  ∃ cs : Array Value, Lies w p 52 cs ∧ cs.size = 4098 ∧ cs[0]? = some (.int .i64 (room : Int)) ∧ cs[1]? = some (.int .i64 (t : Int)) ∧ l.length ≤ 1024 ∧ ∀ i k, l[i]? = some k → ∀ j v, (cellsQ k)[j]? = some v → cs[2 + i * 4 + j]? = some v
theorem len_cellsQ (k : Ky) : (cellsQ k).length = 4 := rfl
theorem one_cellsQ (k : Ky) : ∀ u ∈ cellsQ k, u.oneCell' = true := by
  intro u hu
  simp only [cellsQ, List.mem_cons, List.not_mem_nil, or_false] at hu
  rcases hu with rfl | rfl | rfl | rfl <;> rfl
theorem lies_setCells {g : Nat} {ty : TypeId} : ∀ (vs : List Value) (o : Nat) (w : World) (cs : Array Value), Lies w g ty cs →
    ∃ cs', Lies (w.setCells g o vs) g ty cs' ∧ cs'.size = cs.size ∧ (∀ j v, vs[j]? = some v → o + j < cs.size → cs'[o + j]? = some v) ∧ ∀ i, (i < o ∨ o + vs.length ≤ i) → cs'[i]? = cs[i]?
  | [], o, w, cs, h => ⟨cs, h, rfl, fun j v hv => by simp at hv, fun _ _ => rfl⟩
  | u :: vs, o, w, cs, h => by
    obtain ⟨cs', h1, h2, h3, h4⟩ := lies_setCells vs (o + 1) _ _ (h.here o u)
    refine ⟨cs', h1, by rw [h2]; simp, fun j v hv hlt => ?_, fun i hi => ?_⟩
    · cases j with
      | zero =>
        have : u = v := by simpa using hv
        subst this
        rw [Nat.add_zero, h4 o (.inl (by omega)), Array.getElem?_setIfInBounds, if_pos rfl, if_pos (by omega)]
      | succ j =>
        have := h3 j v (by simpa using hv) (by simp; omega)
        rw [show o + (j + 1) = o + 1 + j by omega]; exact this
    · rw [h4 i (by simp at hi; omega), Array.getElem?_setIfInBounds, if_neg (by simp at hi; omega)]
theorem turns_setCells {S : Nat → Prop} {g : Nat} {w0 : World} (hg : S g) : ∀ (vs : List Value) (o : Nat) (w : World), Turns S w0 w → Turns S w0 (w.setCells g o vs)
  | [], _, _, h => h
  | u :: vs, o, _, h => turns_setCells hg vs (o + 1) _ (h.setCell (a := ⟨g, o, none⟩) (.inr hg) u)
section
variable {w w' : World} {p room t B : Nat} {l : List Ky}
theorem Pl.lt (h : Pl w p room t l) : p < w.heap.size := let ⟨_, h1, _⟩ := h; h1.lt
theorem Pl.same (h : Pl w p room t l) (he : w'.heap[p]? = w.heap[p]?) : Pl w' p room t l := by
  obtain ⟨cs, h1, h2⟩ := h
  exact ⟨cs, by unfold Lies; rw [he]; exact h1, h2⟩
theorem Pl.below (h : Pl w p room t l) (hb : Below B w w') (hB : p < B) : Pl w' p room t l := h.same (hb.block p hB)
theorem Pl.turns {S : Nat → Prop} (h : Pl w p room t l) (ht : Turns S w w') (hS : ¬ S p) : Pl w' p room t l := h.same (ht.block p h.lt hS)
theorem Pl.drewN (h : Pl w p room t l) (n : Nat) : Pl (w.drewN n) p room t l := h.same rfl
theorem Pl.len (h : Pl w p room t l) : l.length ≤ 1024 := let ⟨_, _, _, _, _, h5, _⟩ := h; h5
theorem Pl.room_ (h : Pl w p room t l) : w.cell? ⟨p, 0, none⟩ = some (.int .i64 (room : Int)) := by
  obtain ⟨cs, h1, h2, h3, h4, h5, h6⟩ := h
  rw [h1.cell]; exact h3
theorem Pl.taken_ (h : Pl w p room t l) : w.cell? ⟨p, 1, none⟩ = some (.int .i64 (t : Int)) := by
  obtain ⟨cs, h1, h2, h3, h4, h5, h6⟩ := h
  rw [h1.cell]; exact h4
theorem Pl.thawed (h : Pl w p room t l) (i : Nat) : w.frozen? ⟨p, i, none⟩ = false := let ⟨_, h1, _⟩ := h; h1.thawed i
/-- A key's four cells. -/
theorem Pl.cells (h : Pl w p room t l) {i : Nat} {k : Ky} (hi : l[i]? = some k) :
    w.cell? ⟨p, 2 + i * 4, none⟩ = some (.int .i64 k.1) ∧ w.cell? ⟨p, 2 + i * 4 + 1, none⟩ = some (.int .i64 k.2.1) ∧ w.cell? ⟨p, 2 + i * 4 + 2, none⟩ = some (.int .i64 k.2.2.1) ∧ w.cell? ⟨p, 2 + i * 4 + 3, none⟩ = some (.int .i64 k.2.2.2) := by
  obtain ⟨cs, h1, h2, h3, h4, h5, h6⟩ := h
  have H := fun j v => h6 i k hi j v
  exact ⟨(h1.cell _).trans (H 0 _ rfl), (h1.cell _).trans (H 1 _ rfl), (h1.cell _).trans (H 2 _ rfl), (h1.cell _).trans (H 3 _ rfl)⟩
/-- A place may be written. -/
theorem Pl.there (h : Pl w p room t l) {i : Nat} (hi : i < 1024) : w.there p (2 + i * 4) 4 := by
  obtain ⟨cs, h1, h2, h3, h4, h5, h6⟩ := h
  intro j hj
  refine ⟨?_, h1.thawed _⟩
  rw [h1.cell, Array.getElem?_eq_getElem (by omega)]; rfl
theorem Pl.range (h : Pl w p room t l) {i : Nat} {k : Ky} (hi : l[i]? = some k) : w.rangeAt p (2 + i * 4) (cellsQ k) := by
  obtain ⟨cs, h1, h2, h3, h4, h5, h6⟩ := h
  intro j u hu
  rw [h1.cell]; exact h6 i k hi j u hu
/-- A key is laid into a place that is there. -/
theorem Pl.set (h : Pl w p room t l) {i : Nat} (k : Ky) (hi : i < l.length) : Pl (w.setCells p (2 + i * 4) (cellsQ k)) p room t (l.set i k) := by
  obtain ⟨cs, h1, h2, h3, h4, h5, h6⟩ := h
  obtain ⟨cs', k1, k2, k3, k4⟩ := lies_setCells (cellsQ k) (2 + i * 4) _ _ h1
  refine ⟨cs', k1, k2.trans h2, by rw [k4 0 (.inl (by omega))]; exact h3, by rw [k4 1 (.inl (by omega))]; exact h4, by simpa using h5, fun j x hj m v hm => ?_⟩
  have hm4 : m < 4 := (List.getElem?_eq_some_iff.1 hm).1
  by_cases e : j = i
  · subst e
    rw [List.getElem?_set_self hi] at hj
    cases hj
    exact k3 m v hm (by omega)
  · rw [List.getElem?_set_ne (Ne.symm e)] at hj
    rw [k4 _ (by simp [cellsQ]; omega)]; exact h6 j x hj m v hm
/-- A key is laid behind the last one that is known. -/
theorem Pl.next (h : Pl w p room t l) (k : Ky) (hi : l.length < 1024) : Pl (w.setCells p (2 + l.length * 4) (cellsQ k)) p room t (l ++ [k]) := by
  obtain ⟨cs, h1, h2, h3, h4, h5, h6⟩ := h
  obtain ⟨cs', k1, k2, k3, k4⟩ := lies_setCells (cellsQ k) (2 + l.length * 4) _ _ h1
  refine ⟨cs', k1, k2.trans h2, by rw [k4 0 (.inl (by omega))]; exact h3, by rw [k4 1 (.inl (by omega))]; exact h4, by simp; omega, fun j x hj m v hm => ?_⟩
  have hm4 : m < 4 := (List.getElem?_eq_some_iff.1 hm).1
  by_cases e : j < l.length
  · rw [List.getElem?_append_left e] at hj
    rw [k4 _ (.inl (by omega))]; exact h6 j x hj m v hm
  · have e2 : j = l.length := by
      have := (List.getElem?_eq_some_iff.1 hj).1
      simp at this; omega
    subst e2
    have : k = x := by simpa using hj
    subst this
    exact k3 m v hm (by omega)
/-- The last place is written over. -/
theorem Pl.last (h : Pl w p room t l) (n : Nat) (k : Ky) : Pl (w.setCells p (2 + n * 4) (cellsQ k)) p room t (l.take n) := by
  obtain ⟨cs, h1, h2, h3, h4, h5, h6⟩ := h
  obtain ⟨cs', k1, k2, k3, k4⟩ := lies_setCells (cellsQ k) (2 + n * 4) _ _ h1
  refine ⟨cs', k1, k2.trans h2, by rw [k4 0 (.inl (by omega))]; exact h3, by rw [k4 1 (.inl (by omega))]; exact h4, by rw [List.length_take]; omega, fun j x hj m v hm => ?_⟩
  have hm4 : m < 4 := (List.getElem?_eq_some_iff.1 hm).1
  rw [List.getElem?_take] at hj
  split at hj
  · rw [k4 _ (.inl (by omega))]; exact h6 j x hj m v hm
  · cases hj
theorem Pl.take (h : Pl w p room t l) (n : Nat) : Pl w p room t (l.take n) := by
  obtain ⟨cs, h1, h2, h3, h4, h5, h6⟩ := h
  refine ⟨cs, h1, h2, h3, h4, by rw [List.length_take]; omega, fun j x hj => ?_⟩
  rw [List.getElem?_take] at hj
  split at hj
  · exact h6 j x hj
  · cases hj
/-- Another number is taken. -/
theorem Pl.count (h : Pl w p room t l) (t' : Nat) : Pl (w.setCell ⟨p, 1, none⟩ (.int .i64 (t' : Int))) p room t' l := by
  obtain ⟨cs, h1, h2, h3, h4, h5, h6⟩ := h
  refine ⟨_, h1.here 1 _, by simpa using h2, ?_, ?_, h5, fun i k hi j v hj => ?_⟩
  · rw [Array.getElem?_setIfInBounds, if_neg (by omega)]; exact h3
  · rw [Array.getElem?_setIfInBounds, if_pos rfl, if_pos (by omega)]
  · rw [Array.getElem?_setIfInBounds, if_neg (by omega)]; exact h6 i k hi j v hj
end

def FindRel (l : List Ky) (id : Int) (w : World) (i : Value) (W : World) : Prop := ∃ k : Nat, k ≤ l.length ∧ i = .int .i64 (k : Int) ∧ W = w ∧ ∀ j x, j < k → l[j]? = some x → idK x ≠ id
/-- The first place of an Id, and whether there is one. -/
def Finds (l : List Ky) (id : Int) (w : World) (e : Ending) (w' : World) : Prop :=
  w' = w ∧ ((∃ (q : Nat) (k : Ky), l[q]? = some k ∧ idK k = id ∧ e = .returned (.tuple #[.int .i64 (q : Int), .bool true])) ∨ ((∀ x ∈ l, idK x ≠ id) ∧ e = .returned (.tuple #[.int .i64 0, .bool false])))

set_option maxHeartbeats 1000000 in
theorem findId (l : List Ky) (id : Int) {p room : Nat} {w : World} (h : Pl w p room l.length l) : Calls Try.prog 24 #[.pointer (some ⟨p, 0, none⟩), .int .i64 id] w (Finds l id w) := by
  have HP := Lib.hid h
  have hlen := h.len
  have ht := h.taken_
  have hpl := h.lt
  clear h
  go_enter Try.func24, Try.ntmps24
  go_wp2
  clear ht
  go_loopw [11] (fun i W => FindRel l id w i W) (fun i _ => l.length - (intOf i).toNat)
  case atStart => exact ⟨0, by omega, rfl, rfl, fun j _ hj => by omega⟩
  case round =>
    obtain ⟨k, hk, rfl, rfl, hall⟩ := hrel
    have HA := Lib.hid hall
    clear hall
    by_cases hlt : k < l.length
    · have t1 : decide ((k : Int) < (l.length : Int)) = true := by simp; omega
      have hx : l[k]? = some l[k] := List.getElem?_eq_getElem hlt
      obtain ⟨x0, x1, x2, x3⟩ := HP.out.cells hx
      have HX := Lib.hid hx
      clear hx x0 x1 x2
      generalize l[k] = x at x3 HX
      have HI := Lib.hid (show idK x = x.2.2.2 from rfl)
      generalize x.2.2.2 = d at x3 HI
      by_cases hdK : d = id
      · have t2 : (d == id) = true := by simp [hdK]
        have HD := Lib.hid hdK
        clear hdK
        go_wp2
        go_ret2
        exact ⟨rfl, .inl ⟨k, x, HX.out, HI.out.trans HD.out, rfl⟩⟩
      · have t2 : (d == id) = false := by simp [hdK]
        have HA1 : Hid (∀ j y, j < k + 1 → l[j]? = some y → idK y ≠ id) := fun j y hj hy => by
          by_cases e : j = k
          · subst e
            rw [HX.out] at hy
            cases hy
            rw [HI.out]; exact hdK
          · exact HA.out j y (by omega) hy
        clear hdK
        go_wp2
        go_roundw
        case rel => exact ⟨k + 1, by omega, by go_num, rfl, HA1.out⟩
        case measure => simp [intOf]; omega
    · have t1 : decide ((k : Int) < (l.length : Int)) = false := by simp; omega
      have t1' : decide (k < l.length) = false := by simp; omega
      have HN : Hid (∀ x ∈ l, idK x ≠ id) := fun x hx => by
        obtain ⟨j, hj⟩ := List.getElem?_of_mem hx
        have := (List.getElem?_eq_some_iff.1 hj).1
        exact HA.out j x (by omega) hj
      go_wp2
      go_ret2
      exact ⟨rfl, .inr ⟨HN.out, rfl⟩⟩
end Go.Proofs.Ytblecehmbmbjiaa
