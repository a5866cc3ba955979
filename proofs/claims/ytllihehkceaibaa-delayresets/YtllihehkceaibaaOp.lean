/- Rows of numbers and of asks that come in, opened. -/
import Derived.Test.YtllihehkceaibaaMem
import Derived.ProofKit
import Derived.OpenShut
import Derived.Deep.Slices
import Derived.Deep.Fields
import Derived.Lib.SmallJoins
namespace Go.Proofs.Ytllihehkceaibaa
open Go.ChangeShapes Go.WideShapes Go.RowKit

/-- It says yes, and what was there is as it was. -/
def Woke (w : World) (e : Ending) (w' : World) : Prop := e = .returned (.bool true) ∧ Below w.heap.size w w'
/-- A slice that begins at a, with room for cap, reads as the numbers l. -/
structure Ints (w : World) (a : Option Addr) (cap : Nat) (l : List Int) : Prop where
  le : l.length ≤ cap
  form : 0 < l.length → ∃ b off, a = some ⟨b, off, none⟩ ∧ b < w.heap.size ∧ ∀ i t, l[i]? = some t → w.cell? ⟨b, off + i, none⟩ = some (.int .i64 t)
theorem Ints.below {w w' : World} {a : Option Addr} {cap B : Nat} {l : List Int} (h : Ints w a cap l) (hB : w.heap.size ≤ B) (hb : Below B w w') : Ints w' a cap l := by
  refine ⟨h.le, fun h0 => ?_⟩
  obtain ⟨b, off, ha, hlt, hc⟩ := h.form h0
  refine ⟨b, off, ha, Nat.lt_of_lt_of_le hlt hb.size, fun i t hi => ?_⟩
  rw [hb.cell (p := ⟨b, off + i, none⟩) (Nat.lt_of_lt_of_le hlt hB)]; exact hc i t hi
/-- Numbers that come in hold their place in every world behind. -/
theorem Ints.at_ {w : World} {a : Option Addr} {cap : Nat} {l : List Int} (h : Ints w a cap l) {i : Nat} {t : Int} (hi : l[i]? = some t) : ∃ b off, a = some ⟨b, off, none⟩ ∧ b < w.heap.size ∧ ∀ W, Below w.heap.size w W → W.cell? ⟨b, off + i, none⟩ = some (.int .i64 t) := by
  have hlt := (List.getElem?_eq_some_iff.1 hi).1
  obtain ⟨b, off, ha, hb, hc⟩ := h.form (by omega)
  refine ⟨b, off, ha, hb, fun W hW => ?_⟩
  rw [hW.cell (p := ⟨b, off + i, none⟩) hb]; exact hc i t hi
/-- An ask: a gate and a time. -/
abbrev Ask := Int × Int
def cellsA (x : Ask) : List Value := [.int .i64 x.1, .int .i64 x.2]
/-- A slice that begins at a, with room for cap, reads as the asks l. -/
structure Asks (w : World) (a : Option Addr) (cap : Nat) (l : List Ask) : Prop where
  le : l.length ≤ cap
  form : 0 < l.length → ∃ b off, a = some ⟨b, off, none⟩ ∧ b < w.heap.size ∧ ∀ i t, l[i]? = some t → ∀ j v, (cellsA t)[j]? = some v → w.cell? ⟨b, off + i * 2 + j, none⟩ = some v
theorem Asks.at_ {w : World} {a : Option Addr} {cap : Nat} {l : List Ask} (h : Asks w a cap l) {i : Nat} {t : Ask} (hi : l[i]? = some t) : ∃ b off, a = some ⟨b, off, none⟩ ∧ b < w.heap.size ∧ ∀ W, Below w.heap.size w W →
    W.cell? ⟨b, off + i * 2, none⟩ = some (.int .i64 t.1) ∧ W.cell? ⟨b, off + i * 2 + 1, none⟩ = some (.int .i64 t.2) := by
  have hlt := (List.getElem?_eq_some_iff.1 hi).1
  obtain ⟨b, off, ha, hb, hc⟩ := h.form (by omega)
  refine ⟨b, off, ha, hb, fun W hW => ⟨?_, ?_⟩⟩
  · rw [hW.cell (p := ⟨b, off + i * 2, none⟩) hb]; exact hc i t hi 0 _ rfl
  · rw [hW.cell (p := ⟨b, off + i * 2 + 1, none⟩) hb]; exact hc i t hi 1 _ rfl

section
variable {H : Type} {enc : TypeId × Value → H} {W : World}
theorem cells3 : Try.prog.cellsOf 3 = 1 := by kernel_rfl
theorem cells31 : Try.prog.cellsOf 31 = 2 := by kernel_rfl
theorem take_one {cs : List Value} {j : Nat} {v : Value} (h : (cs.drop j).take 1 = [v]) : cs[j]? = some v := by
  have : ((cs.drop j).take 1)[0]? = some v := by rw [h]; rfl
  rw [List.getElem?_take, if_pos (by omega), List.getElem?_drop] at this
  exact this
theorem int_field {xs : List (DataW H × List MemPlace)} {m j : Nat} {cs : List Value} (hx : j < xs.length) (h : DataW.trod enc Try.prog W 0 (fun _ => true) true m 3 ((cs.drop j).take (Try.prog.cellsOf 3)) = xs[j]?) : ∃ n : Int, cs[j]? = some (.int .i64 n) := by
  rw [List.getElem?_eq_getElem hx] at h
  obtain ⟨n, hn, _⟩ := DataW.trod_int Try.underlying3 h
  rw [cells3] at hn
  exact ⟨n, take_one hn⟩
theorem ask_of_cells {m : Nat} {cs : List Value} {y : DataW H × List MemPlace} (h : DataW.trod enc Try.prog W 0 (fun _ => true) true m 31 cs = some y) : ∃ t : Ask, ∀ (j : Nat) (v : Value), (cellsA t)[j]? = some v → cs[j]? = some v := by
  obtain ⟨xs, q, _, _, _, hxl, hf⟩ := DataW.trod_struct Try.underlying31 h
  have hl : xs.length = 2 := hxl
  obtain ⟨n0, e0⟩ := int_field (j := 0) (by omega) (hf 0 _ rfl)
  obtain ⟨n1, e1⟩ := int_field (j := 1) (by omega) (hf 1 _ rfl)
  refine ⟨(n0, n1), fun j v hv => ?_⟩
  match j, hv with
  | 0, hv => rw [e0]; exact hv
  | 1, hv => rw [e1]; exact hv
  | j + 2, hv => simp [cellsA] at hv
theorem asks_of {fuel : Nat} {v : Value} {y : DataW H × List MemPlace} (h : DataW.trod enc Try.prog W 0 (fun _ => true) true fuel 23 [v] = some y) : ∃ a len cap, v = .slice a len cap ∧ ∃ l : List Ask, l.length = len ∧ len ≤ maxLen ∧ Asks W a cap l := by
  rcases Go.Deep.open_slice Try.underlying23 h with ⟨hcs, _⟩ | ⟨x, len, cap, m, n, D, Pl, hcs, _, hl, hm, hmm, _, hi⟩
  · have : v = .slice none 0 0 := by simpa using hcs
    exact ⟨none, 0, 0, this, [], rfl, Nat.zero_le _, Nat.le_refl _, fun h => by cases h⟩
  · have hv : v = .slice (some x) len cap := by simpa using hcs
    have hm' : m = cap := by simpa using hmm
    subst hm'
    have each : ∀ i, i < m → ∃ t : Ask, ∀ (j : Nat) (v : Value), (cellsA t)[j]? = some v → W.cell? (x.add (i * 2 + j)) = some v := by
      intro i him
      obtain ⟨cs', hc, ht⟩ := hi i him
      rw [cells31] at hc
      obtain ⟨_, hcl, hat⟩ := World.cells?_some hc
      obtain ⟨t, htt⟩ := ask_of_cells ht
      refine ⟨t, fun j v hj => ?_⟩
      have hj4 : j < 2 := (List.getElem?_eq_some_iff.1 hj).1
      have h1 := hat j hj4
      rw [htt j v hj] at h1
      rw [← h1, Go.Deep.add_add]
    obtain ⟨q, hq⟩ := @Go.Deep.choose_lt Ask ⟨(0, 0)⟩ _ _ each
    refine ⟨some x, len, m, hv, (List.range len).map q, by simp, by omega, by simp; exact hl, fun h0 => ?_⟩
    have hpos : 0 < m := by simp at h0; omega
    obtain ⟨b, off, spot⟩ := x
    have hc0 := hq 0 hpos 0 _ rfl
    have hspot : spot = none := by simpa [Addr.add] using World.cell?_spot hc0
    subst hspot
    refine ⟨b, off, rfl, by have := block_lt_of_cell hc0; simpa [Addr.add] using this, fun i u hu j v hj => ?_⟩
    have hi : i < len := by have := (List.getElem?_eq_some_iff.1 hu).1; simpa using this
    have hqu : q i = u := by simpa [hi] using hu
    have := hq i (by omega) j v (by rw [hqu]; exact hj)
    rw [Addr.add_lit] at this
    rw [Nat.add_assoc]; exact this
theorem ints_of {fuel : Nat} {v : Value} {y : DataW H × List MemPlace} (h : DataW.trod enc Try.prog W 0 (fun _ => true) true fuel 22 [v] = some y) : ∃ a len cap, v = .slice a len cap ∧ ∃ l : List Int, l.length = len ∧ len ≤ maxLen ∧ Ints W a cap l := by
  rcases Go.Deep.open_slice Try.underlying22 h with ⟨hcs, _⟩ | ⟨x, len, cap, m, n, D, Pl, hcs, _, hl, hm, hmm, _, hi⟩
  · have : v = .slice none 0 0 := by simpa using hcs
    exact ⟨none, 0, 0, this, [], rfl, Nat.zero_le _, Nat.le_refl _, fun h => by cases h⟩
  · have hv : v = .slice (some x) len cap := by simpa using hcs
    have hm' : m = cap := by simpa using hmm
    subst hm'
    have each : ∀ i, i < m → ∃ t : Int, W.cell? (x.add i) = some (.int .i64 t) := by
      intro i him
      obtain ⟨cs', hc, ht⟩ := hi i him
      obtain ⟨t, htt, _, hwf⟩ := DataW.trod_int Try.underlying3 ht
      rw [cells3] at hc
      obtain ⟨_, hcl, hat⟩ := World.cells?_some hc
      have h1 := hat 0 (by omega)
      rw [htt] at h1
      refine ⟨t, ?_⟩
      simpa [Go.Deep.add_add] using h1
    obtain ⟨q, hq⟩ := @Go.Deep.choose_lt Int ⟨0⟩ _ _ each
    refine ⟨some x, len, m, hv, (List.range len).map q, by simp, by omega, by simp; exact hl, fun h0 => ?_⟩
    have hpos : 0 < m := by simp at h0; omega
    obtain ⟨b, off, spot⟩ := x
    have hc0 := hq 0 hpos
    have hspot : spot = none := by simpa [Addr.add] using World.cell?_spot hc0
    subst hspot
    refine ⟨b, off, rfl, by have := block_lt_of_cell hc0; simpa [Addr.add] using this, fun i u hu => ?_⟩
    have hi : i < len := by have := (List.getElem?_eq_some_iff.1 hu).1; simpa using this
    have hqu : q i = u := by simpa [hi] using hu
    have := hq i (by omega)
    rw [Addr.add_lit, hqu] at this
    exact this
theorem asks_in {a : Option Addr} {len cap : Nat} {d : DataW H} {p : List MemPlace} (h : DataW.Trod enc Try.prog W 0 (fun _ => true) true 23 (.slice a len cap) d p) : ∃ l : List Ask, l.length = len ∧ len ≤ maxLen ∧ Asks W a cap l := by
  obtain ⟨fuel, hf⟩ := h
  obtain ⟨a', len', cap', e, l, h1, h2, h3⟩ := asks_of hf
  cases e
  exact ⟨l, h1, h2, h3⟩
theorem ints_in {a : Option Addr} {len cap : Nat} {d : DataW H} {p : List MemPlace} (h : DataW.Trod enc Try.prog W 0 (fun _ => true) true 22 (.slice a len cap) d p) : ∃ l : List Int, l.length = len ∧ len ≤ maxLen ∧ Ints W a cap l := by
  obtain ⟨fuel, hf⟩ := h
  obtain ⟨a', len', cap', e, l, h1, h2, h3⟩ := ints_of hf
  cases e
  exact ⟨l, h1, h2, h3⟩
end
end Go.Proofs.Ytllihehkceaibaa
