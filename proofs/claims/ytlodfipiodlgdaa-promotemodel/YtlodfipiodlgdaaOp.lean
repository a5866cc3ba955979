/- Rows of acts and of small numbers that come in, opened. -/
import Derived.Test.YtlodfipiodlgdaaPv
import Derived.Test.YtlodfipiodlgdaaWf
import Derived.ProofKit
import Derived.OpenShut
import Derived.BigQuiet
import Derived.IntWalk
import Derived.Deep.Slices
import Derived.Deep.Fields
import Derived.Lib.SmallJoins
namespace Go.Proofs.Ytlodfipiodlgdaa
open Go.ChangeShapes Go.WideShapes Go.RowKit

/-- An act: what is done, Id, Release, D, R. -/
abbrev Ac := Int × Int × Int × Int × Int
def cellsA (x : Ac) : List Value := [.int .i64 x.1, .int .i64 x.2.1, .int .i64 x.2.2.1, .int .i64 x.2.2.2.1, .int .i64 x.2.2.2.2]
/-- Its numbers are of 64 bits. -/
def is64 (n : Int) : Prop := -9223372036854775808 ≤ n ∧ n ≤ 9223372036854775807
def small_ (x : Ac) : Prop := is64 x.1 ∧ is64 x.2.1 ∧ is64 x.2.2.1 ∧ is64 x.2.2.2.1 ∧ is64 x.2.2.2.2
/-- A slice that begins at a, with room for cap, reads as the acts l. -/
structure ActsIn (w : World) (a : Option Addr) (cap : Nat) (l : List Ac) : Prop where
  le : l.length ≤ cap
  small : ∀ x ∈ l, small_ x
  form : 0 < l.length → ∃ b off, a = some ⟨b, off, none⟩ ∧ b < w.heap.size ∧ ∀ i t, l[i]? = some t → ∀ j v, (cellsA t)[j]? = some v → w.cell? ⟨b, off + i * 5 + j, none⟩ = some v
theorem ActsIn.below {w w' : World} {a : Option Addr} {cap B : Nat} {l : List Ac} (h : ActsIn w a cap l) (hB : w.heap.size ≤ B) (hb : Below B w w') : ActsIn w' a cap l := by
  refine ⟨h.le, h.small, fun h0 => ?_⟩
  obtain ⟨b, off, ha, hlt, hc⟩ := h.form h0
  refine ⟨b, off, ha, Nat.lt_of_lt_of_le hlt hb.size, fun i t hi j v hj => ?_⟩
  rw [hb.cell (p := ⟨b, off + i * 5 + j, none⟩) (Nat.lt_of_lt_of_le hlt hB)]; exact hc i t hi j v hj
theorem ActsIn.drewN {w : World} {a : Option Addr} {cap : Nat} {l : List Ac} (h : ActsIn w a cap l) (n : Nat) : ActsIn (w.drewN n) a cap l := h.below (Nat.le_refl _) (below_drewN (Below.refl _ _) n)
/-- An act's five cells. -/
theorem ActsIn.cells {w : World} {a : Option Addr} {cap : Nat} {l : List Ac} (h : ActsIn w a cap l) {i : Nat} {t : Ac} (hi : l[i]? = some t) : ∃ b off, a = some ⟨b, off, none⟩ ∧ b < w.heap.size ∧
    w.cell? ⟨b, off + i * 5, none⟩ = some (.int .i64 t.1) ∧ w.cell? ⟨b, off + i * 5 + 1, none⟩ = some (.int .i64 t.2.1) ∧ w.cell? ⟨b, off + i * 5 + 2, none⟩ = some (.int .i64 t.2.2.1) ∧
    w.cell? ⟨b, off + i * 5 + 3, none⟩ = some (.int .i64 t.2.2.2.1) ∧ w.cell? ⟨b, off + i * 5 + 4, none⟩ = some (.int .i64 t.2.2.2.2) := by
  have hlt := (List.getElem?_eq_some_iff.1 hi).1
  obtain ⟨b, off, ha, hb, hc⟩ := h.form (by omega)
  have H := fun j v => hc i t hi j v
  exact ⟨b, off, ha, hb, H 0 _ rfl, H 1 _ rfl, H 2 _ rfl, H 3 _ rfl, H 4 _ rfl⟩

section
variable {H : Type} {enc : TypeId × Value → H} {W : World}
theorem cells3 : Try.prog.cellsOf 3 = 1 := by kernel_rfl
theorem cells30 : Try.prog.cellsOf 30 = 5 := by kernel_rfl
theorem take_one {cs : List Value} {j : Nat} {v : Value} (h : (cs.drop j).take 1 = [v]) : cs[j]? = some v := by
  have : ((cs.drop j).take 1)[0]? = some v := by rw [h]; rfl
  rw [List.getElem?_take, if_pos (by omega), List.getElem?_drop] at this
  exact this
theorem int_field {xs : List (DataW H × List MemPlace)} {m j : Nat} {cs : List Value} (hx : j < xs.length) (h : DataW.trod enc Try.prog W 0 (fun _ => true) true m 3 ((cs.drop j).take (Try.prog.cellsOf 3)) = xs[j]?) : ∃ n : Int, cs[j]? = some (.int .i64 n) ∧ is64 n := by
  rw [List.getElem?_eq_getElem hx] at h
  obtain ⟨n, hn, _, hwf⟩ := DataW.trod_int Try.underlying3 h
  rw [cells3] at hn
  exact ⟨n, take_one hn, i64_of hwf⟩
theorem act_of_cells {m : Nat} {cs : List Value} {y : DataW H × List MemPlace} (h : DataW.trod enc Try.prog W 0 (fun _ => true) true m 30 cs = some y) : ∃ t : Ac, small_ t ∧ ∀ (j : Nat) (v : Value), (cellsA t)[j]? = some v → cs[j]? = some v := by
  obtain ⟨xs, q, _, _, _, hxl, hf⟩ := DataW.trod_struct Try.underlying30 h
  have hl : xs.length = 5 := hxl
  obtain ⟨n0, e0, g0⟩ := int_field (j := 0) (by omega) (hf 0 _ rfl)
  obtain ⟨n1, e1, g1⟩ := int_field (j := 1) (by omega) (hf 1 _ rfl)
  obtain ⟨n2, e2, g2⟩ := int_field (j := 2) (by omega) (hf 2 _ rfl)
  obtain ⟨n3, e3, g3⟩ := int_field (j := 3) (by omega) (hf 3 _ rfl)
  obtain ⟨n4, e4, g4⟩ := int_field (j := 4) (by omega) (hf 4 _ rfl)
  refine ⟨(n0, n1, n2, n3, n4), ⟨g0, g1, g2, g3, g4⟩, fun j v hv => ?_⟩
  match j, hv with
  | 0, hv => rw [e0]; exact hv
  | 1, hv => rw [e1]; exact hv
  | 2, hv => rw [e2]; exact hv
  | 3, hv => rw [e3]; exact hv
  | 4, hv => rw [e4]; exact hv
  | j + 5, hv => simp [cellsA] at hv
theorem acts_of {fuel : Nat} {v : Value} {y : DataW H × List MemPlace} (h : DataW.trod enc Try.prog W 0 (fun _ => true) true fuel 22 [v] = some y) : ∃ a len cap, v = .slice a len cap ∧ ∃ l : List Ac, l.length = len ∧ len ≤ maxLen ∧ ActsIn W a cap l := by
  rcases Go.Deep.open_slice Try.underlying22 h with ⟨hcs, _⟩ | ⟨x, len, cap, m, n, D, Pl, hcs, _, hl, hm, hmm, _, hi⟩
  · have : v = .slice none 0 0 := by simpa using hcs
    exact ⟨none, 0, 0, this, [], rfl, Nat.zero_le _, Nat.le_refl _, fun x hx => by simp at hx, fun h => by cases h⟩
  · have hv : v = .slice (some x) len cap := by simpa using hcs
    have hm' : m = cap := by simpa using hmm
    subst hm'
    have each : ∀ i, i < m → ∃ t : Ac, small_ t ∧ ∀ (j : Nat) (v : Value), (cellsA t)[j]? = some v → W.cell? (x.add (i * 5 + j)) = some v := by
      intro i him
      obtain ⟨cs', hc, ht⟩ := hi i him
      rw [cells30] at hc
      obtain ⟨_, hcl, hat⟩ := World.cells?_some hc
      obtain ⟨t, hsm, htt⟩ := act_of_cells ht
      refine ⟨t, hsm, fun j v hj => ?_⟩
      have hj6 : j < 5 := (List.getElem?_eq_some_iff.1 hj).1
      have h1 := hat j hj6
      rw [htt j v hj] at h1
      rw [← h1, Go.Deep.add_add]
    obtain ⟨q, hq⟩ := @Go.Deep.choose_lt Ac ⟨(0, 0, 0, 0, 0)⟩ _ _ each
    refine ⟨some x, len, m, hv, (List.range len).map q, by simp, by omega, by simp; exact hl, fun z hz => by
      obtain ⟨i, hi', rfl⟩ := List.mem_map.1 hz
      exact (hq i (Nat.lt_of_lt_of_le (List.mem_range.1 hi') hl)).1, fun h0 => ?_⟩
    have hpos : 0 < m := by simp at h0; omega
    obtain ⟨b, off, spot⟩ := x
    have hc0 := (hq 0 hpos).2 0 _ rfl
    have hspot : spot = none := by simpa [Addr.add] using World.cell?_spot hc0
    subst hspot
    refine ⟨b, off, rfl, by have := block_lt_of_cell hc0; simpa [Addr.add] using this, fun i u hu j v hj => ?_⟩
    have hi : i < len := by have := (List.getElem?_eq_some_iff.1 hu).1; simpa using this
    have hqu : q i = u := by simpa [hi] using hu
    have := (hq i (by omega)).2 j v (by rw [hqu]; exact hj)
    rw [Addr.add_lit] at this
    rw [Nat.add_assoc]; exact this
theorem acts_in {a : Option Addr} {len cap : Nat} {d : DataW H} {p : List MemPlace} (h : DataW.Trod enc Try.prog W 0 (fun _ => true) true 22 (.slice a len cap) d p) : ∃ l : List Ac, l.length = len ∧ len ≤ maxLen ∧ ActsIn W a cap l := by
  obtain ⟨fuel, hf⟩ := h
  obtain ⟨a', len', cap', e, l, h1, h2, h3⟩ := acts_of hf
  cases e
  exact ⟨l, h1, h2, h3⟩
/-- A slice that begins at a, with room for cap, reads as the smalls l. -/
structure Smalls (w : World) (a : Option Addr) (cap : Nat) (l : List Int) : Prop where
  le : l.length ≤ cap
  small : ∀ x ∈ l, 0 ≤ x ∧ x < 256
  form : 0 < l.length → ∃ b off, a = some ⟨b, off, none⟩ ∧ b < w.heap.size ∧ ∀ i t, l[i]? = some t → w.cell? ⟨b, off + i, none⟩ = some (.int .u8 t)
theorem Smalls.below {w w' : World} {a : Option Addr} {cap B : Nat} {l : List Int} (h : Smalls w a cap l) (hB : w.heap.size ≤ B) (hb : Below B w w') : Smalls w' a cap l := by
  refine ⟨h.le, h.small, fun h0 => ?_⟩
  obtain ⟨b, off, ha, hlt, hc⟩ := h.form h0
  refine ⟨b, off, ha, Nat.lt_of_lt_of_le hlt hb.size, fun i t hi => ?_⟩
  rw [hb.cell (p := ⟨b, off + i, none⟩) (Nat.lt_of_lt_of_le hlt hB)]; exact hc i t hi
theorem Smalls.at_ {w : World} {a : Option Addr} {cap : Nat} {l : List Int} (h : Smalls w a cap l) {i : Nat} {t : Int} (hi : l[i]? = some t) : ∃ b off, a = some ⟨b, off, none⟩ ∧ b < w.heap.size ∧ w.cell? ⟨b, off + i, none⟩ = some (.int .u8 t) ∧ 0 ≤ t ∧ t < 256 := by
  have hlt := (List.getElem?_eq_some_iff.1 hi).1
  obtain ⟨b, off, ha, hb, hc⟩ := h.form (by omega)
  have := h.small t (List.mem_of_getElem? hi)
  exact ⟨b, off, ha, hb, hc i t hi, this.1, this.2⟩
theorem cells5 : Try.prog.cellsOf 5 = 1 := by kernel_rfl
theorem smalls_of {fuel : Nat} {v : Value} {y : DataW H × List MemPlace} (h : DataW.trod enc Try.prog W 0 (fun _ => true) true fuel 45 [v] = some y) : ∃ a len cap, v = .slice a len cap ∧ ∃ l : List Int, l.length = len ∧ len ≤ maxLen ∧ Smalls W a cap l := by
  rcases Go.Deep.open_slice Try.underlying45 h with ⟨hcs, _⟩ | ⟨x, len, cap, m, n, D, Pl, hcs, _, hl, hm, hmm, _, hi⟩
  · have : v = .slice none 0 0 := by simpa using hcs
    exact ⟨none, 0, 0, this, [], rfl, Nat.zero_le _, Nat.le_refl _, fun x hx => by simp at hx, fun h => by cases h⟩
  · have hv : v = .slice (some x) len cap := by simpa using hcs
    have hm' : m = cap := by simpa using hmm
    subst hm'
    have each : ∀ i, i < m → ∃ t : Int, (0 ≤ t ∧ t < 256) ∧ W.cell? (x.add i) = some (.int .u8 t) := by
      intro i him
      obtain ⟨cs', hc, ht⟩ := hi i him
      obtain ⟨t, htt, _, hwf⟩ := DataW.trod_int Try.underlying5 ht
      rw [cells5] at hc
      obtain ⟨_, hcl, hat⟩ := World.cells?_some hc
      have h1 := hat 0 (by omega)
      rw [htt] at h1
      refine ⟨t, u8_of hwf, ?_⟩
      simpa [Go.Deep.add_add] using h1
    obtain ⟨q, hq⟩ := @Go.Deep.choose_lt Int ⟨0⟩ _ _ each
    refine ⟨some x, len, m, hv, (List.range len).map q, by simp, by omega, by simp; exact hl, fun z hz => ?_, fun h0 => ?_⟩
    · obtain ⟨i, hi', rfl⟩ := List.mem_map.1 hz
      exact (hq i (Nat.lt_of_lt_of_le (List.mem_range.1 hi') hl)).1
    · have hpos : 0 < m := by simp at h0; omega
      obtain ⟨b, off, spot⟩ := x
      have hc0 := (hq 0 hpos).2
      have hspot : spot = none := by simpa [Addr.add] using World.cell?_spot hc0
      subst hspot
      refine ⟨b, off, rfl, by have := block_lt_of_cell hc0; simpa [Addr.add] using this, fun i u hu => ?_⟩
      have hi : i < len := by have := (List.getElem?_eq_some_iff.1 hu).1; simpa using this
      have hqu : q i = u := by simpa [hi] using hu
      have := (hq i (by omega)).2
      rw [Addr.add_lit, hqu] at this
      exact this
theorem smalls_in {a : Option Addr} {len cap : Nat} {d : DataW H} {p : List MemPlace} (h : DataW.Trod enc Try.prog W 0 (fun _ => true) true 45 (.slice a len cap) d p) : ∃ l : List Int, l.length = len ∧ len ≤ maxLen ∧ Smalls W a cap l := by
  obtain ⟨fuel, hf⟩ := h
  obtain ⟨a', len', cap', e, l, h1, h2, h3⟩ := smalls_of hf
  cases e
  exact ⟨l, h1, h2, h3⟩
end
end Go.Proofs.Ytlodfipiodlgdaa
