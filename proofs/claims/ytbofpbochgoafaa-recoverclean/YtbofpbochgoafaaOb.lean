/- Rows of bools that come in, opened. -/
import Derived.Test.YtbofpbochgoafaaMem
import Derived.ProofKit
import Derived.OpenShut
import Derived.Deep.Slices
import Derived.Deep.Fields
import Derived.Lib.SmallJoins
namespace Go.Proofs.Ytbofpbochgoafaa
open Go.ChangeShapes Go.WideShapes Go.RowKit

/-- A slice that begins at a, with room for cap, reads as the bools l. -/
structure Bools (w : World) (a : Option Addr) (cap : Nat) (l : List Bool) : Prop where
  le : l.length ≤ cap
  nil : a = none → cap = 0
  form : 0 < l.length → ∃ b off, a = some ⟨b, off, none⟩ ∧ b < w.heap.size ∧ ∀ i t, l[i]? = some t → w.cell? ⟨b, off + i, none⟩ = some (.bool t)
/-- Bools that come in hold their place in every world behind. -/
theorem Bools.at_ {w : World} {a : Option Addr} {cap : Nat} {l : List Bool} (h : Bools w a cap l) {i : Nat} {t : Bool} (hi : l[i]? = some t) : ∃ b off, a = some ⟨b, off, none⟩ ∧ b < w.heap.size ∧ ∀ W, Below w.heap.size w W → W.cell? ⟨b, off + i, none⟩ = some (.bool t) := by
  have hlt := (List.getElem?_eq_some_iff.1 hi).1
  obtain ⟨b, off, ha, hb, hc⟩ := h.form (by omega)
  refine ⟨b, off, ha, hb, fun W hW => ?_⟩
  rw [hW.cell (p := ⟨b, off + i, none⟩) hb]; exact hc i t hi
theorem Bools.below {w w' : World} {a : Option Addr} {cap B : Nat} {l : List Bool} (h : Bools w a cap l) (hB : w.heap.size ≤ B) (hb : Below B w w') : Bools w' a cap l := by
  refine ⟨h.le, h.nil, fun h0 => ?_⟩
  obtain ⟨b, off, ha, hlt, hc⟩ := h.form h0
  refine ⟨b, off, ha, Nat.lt_of_lt_of_le hlt hb.size, fun i t hi => ?_⟩
  rw [hb.cell (p := ⟨b, off + i, none⟩) (Nat.lt_of_lt_of_le hlt hB)]; exact hc i t hi

section
variable {H : Type} {enc : TypeId × Value → H} {W : World}
theorem cells4 : Try.prog.cellsOf 4 = 1 := by kernel_rfl
theorem bools_of {fuel : Nat} {v : Value} {y : DataW H × List MemPlace} (h : DataW.trod enc Try.prog W 0 (fun _ => true) true fuel 24 [v] = some y) : ∃ a len cap, v = .slice a len cap ∧ ∃ l : List Bool, l.length = len ∧ len ≤ maxLen ∧ Bools W a cap l := by
  rcases Go.Deep.open_slice Try.underlying24 h with ⟨hcs, _⟩ | ⟨x, len, cap, m, n, D, Pl, hcs, _, hl, hm, hmm, _, hi⟩
  · have : v = .slice none 0 0 := by simpa using hcs
    exact ⟨none, 0, 0, this, [], rfl, Nat.zero_le _, Nat.le_refl _, fun _ => rfl, fun h => by cases h⟩
  · have hv : v = .slice (some x) len cap := by simpa using hcs
    have hm' : m = cap := by simpa using hmm
    subst hm'
    have each : ∀ i, i < m → ∃ t : Bool, W.cell? (x.add i) = some (.bool t) := by
      intro i him
      obtain ⟨cs', hc, ht⟩ := hi i him
      obtain ⟨t, htt, _⟩ := DataW.trod_bool Try.underlying4 ht
      rw [cells4] at hc
      obtain ⟨_, hcl, hat⟩ := World.cells?_some hc
      have h1 := hat 0 (by omega)
      rw [htt] at h1
      refine ⟨t, ?_⟩
      simpa [Go.Deep.add_add] using h1
    obtain ⟨q, hq⟩ := @Go.Deep.choose_lt Bool ⟨false⟩ _ _ each
    refine ⟨some x, len, m, hv, (List.range len).map q, by simp, by omega, by simp; exact hl, (fun h => by cases h), fun h0 => ?_⟩
    have hpos : 0 < m := by simp at h0; omega
    obtain ⟨b, off, spot⟩ := x
    have hc0 := hq 0 hpos
    have hspot : spot = none := by simpa [Addr.add] using World.cell?_spot hc0
    subst hspot
    refine ⟨b, off, rfl, by have := block_lt_of_cell hc0; simpa [Addr.add] using this, fun i u hu => ?_⟩
    have hi : i < len := by have := (List.getElem?_eq_some_iff.1 hu).1; simpa using this
    have hqu : q i = u := by simpa [hi] using hu
    have := hq i (by omega)
    rw [Addr.add_lit, hqu] at this
    exact this
theorem bools_in {a : Option Addr} {len cap : Nat} {d : DataW H} {p : List MemPlace} (h : DataW.Trod enc Try.prog W 0 (fun _ => true) true 24 (.slice a len cap) d p) : ∃ l : List Bool, l.length = len ∧ len ≤ maxLen ∧ Bools W a cap l := by
  obtain ⟨fuel, hf⟩ := h
  obtain ⟨a', len', cap', e, l, h1, h2, h3⟩ := bools_of hf
  cases e
  exact ⟨l, h1, h2, h3⟩
end
end Go.Proofs.Ytbofpbochgoafaa
