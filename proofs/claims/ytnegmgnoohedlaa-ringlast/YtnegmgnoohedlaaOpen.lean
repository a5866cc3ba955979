/- What the statements' arguments are: slices of texts, of numbers, of pairs of numbers, as lists that they read as. -/
import Derived.Test.YtnegmgnoohedlaaHas
import Derived.ProofKit
import Derived.OpenShut
import Derived.Deep.Strs
import Derived.Deep.SlicePairs
namespace Go.Proofs.Ytnegmgnoohedlaa
open Go.ChangeShapes Go.WideShapes Go.RowKit

section
variable {H : Type} {enc : TypeId × Value → H} {W : World} {a : Option Addr} {len cap : Nat} {d : DataW H} {p : List MemPlace}
theorem texts_of (h : DataW.Trod enc Try.prog W 0 (fun _ => true) true 37 (.slice a len cap) d p) : ∃ l : List ByteArray, l.length = len ∧ len ≤ maxLen ∧ Reads Value.string W a l := by
  obtain ⟨fuel, hf⟩ := h
  rcases Go.Deep.open_strs Try.underlying37 Try.underlying9 (by kernel_rfl) hf with ⟨hcs, _⟩ | ⟨x, ln, cp, m, Sx, hcs, _, hl, hm, hmm, _, hc⟩
  · simp [Value.cells] at hcs
    obtain ⟨rfl, rfl, rfl⟩ := hcs
    exact ⟨[], rfl, Nat.zero_le _, Reads.nil⟩
  · simp [Value.cells] at hcs
    obtain ⟨rfl, rfl, rfl⟩ := hcs
    have hm' : m = cap := by simpa using hmm
    subst hm'
    have := Reads.mk (emb := Value.string) (w := W) (x := x) (zs := (List.range m).map Sx) hl (by simp) (fun i u hu => by
      have hi : i < m := by have := (List.getElem?_eq_some_iff.1 hu).1; simpa using this
      have : Sx i = u := by simpa [hi] using hu
      rw [← this]; exact (hc i hi).1)
    exact ⟨_, by simp; omega, by omega, this⟩

/-- A slice of pairs of numbers reads as l. -/
def Pairs (w : World) (a : Option Addr) (l : List (Int × Int)) : Prop :=
  0 < l.length → ∃ b off, a = some ⟨b, off, none⟩ ∧ b < w.heap.size ∧ ∀ i u, l[i]? = some u → w.cell? ⟨b, off + i * 2, none⟩ = some (.int .i64 u.1) ∧ w.cell? ⟨b, off + i * 2 + 1, none⟩ = some (.int .i64 u.2)
theorem Pairs.below {w w' : World} {a : Option Addr} {l : List (Int × Int)} {B : Nat} (h : Pairs w a l) (hB : w.heap.size ≤ B) (hb : Below B w w') : Pairs w' a l := by
  intro h0
  obtain ⟨b, off, ha, hlt, hc⟩ := h h0
  refine ⟨b, off, ha, Nat.lt_of_lt_of_le hlt hb.size, fun i u hu => ?_⟩
  rw [hb.cell (p := ⟨b, off + i * 2, none⟩) (Nat.lt_of_lt_of_le hlt hB), hb.cell (p := ⟨b, off + i * 2 + 1, none⟩) (Nat.lt_of_lt_of_le hlt hB)]; exact hc i u hu

theorem number_of {fuel : Nat} {v : Value} {y : DataW H × List MemPlace} (h : DataW.trod enc Try.prog W 0 (fun _ => true) true fuel 3 [v] = some y) : ∃ n : Int, v = .int .i64 n := by
  obtain ⟨n, h1, _⟩ := DataW.trod_int Try.underlying3 h
  exact ⟨n, by simpa using h1⟩
theorem acts_of (h : DataW.Trod enc Try.prog W 0 (fun _ => true) true 22 (.slice a len cap) d p) : ∃ l : List (Int × Int), l.length = len ∧ len ≤ maxLen ∧ Pairs W a l := by
  obtain ⟨fuel, hf⟩ := h
  rcases Go.Deep.open_slice_pairs Try.underlying22 Try.underlying30 (by kernel_rfl) rfl rfl (by kernel_rfl) (by kernel_rfl) hf with ⟨hcs, _⟩ | ⟨x, ln, cp, m, n, V0, V1, D0, D1, P0, P1, hcs, _, hl, hm, hmm, _, hc⟩
  · simp [Value.cells] at hcs
    obtain ⟨rfl, rfl, rfl⟩ := hcs
    exact ⟨[], rfl, Nat.zero_le _, fun h => by cases h⟩
  · simp [Value.cells] at hcs
    obtain ⟨rfl, rfl, rfl⟩ := hcs
    have hm' : m = cap := by simpa using hmm
    subst hm'
    have each : ∀ i, i < m → ∃ u : Int × Int, W.cell? (x.add (i * 2)) = some (.int .i64 u.1) ∧ W.cell? (x.add (i * 2 + 1)) = some (.int .i64 u.2) := by
      intro i hi
      obtain ⟨h0, h1, h2, h3⟩ := hc i hi
      obtain ⟨n0, e0⟩ := number_of h2
      obtain ⟨n1, e1⟩ := number_of h3
      exact ⟨(n0, n1), by rw [h0, e0], by rw [h1, e1]⟩
    obtain ⟨q, hq⟩ := Go.Deep.choose_lt each
    refine ⟨(List.range len).map q, by simp, by omega, fun h0 => ?_⟩
    have hpos : 0 < m := by simp at h0; omega
    obtain ⟨b, off, spot⟩ := x
    have hc0 := (hq 0 hpos).1
    have hspot : spot = none := by simpa [Addr.add] using World.cell?_spot hc0
    subst hspot
    refine ⟨b, off, rfl, block_lt_of_cell hc0, fun i u hu => ?_⟩
    have hi : i < len := by have := (List.getElem?_eq_some_iff.1 hu).1; simpa using this
    have hqu : q i = u := by simpa [hi] using hu
    have hadd : ∀ j, (Addr.mk b off none).add j = ⟨b, off + j, none⟩ := fun j => by cases j <;> simp [Addr.add]
    have := hq i (by omega)
    rw [hadd, hadd, hqu] at this
    exact this
end
end Go.Proofs.Ytnegmgnoohedlaa
