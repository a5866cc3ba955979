/- A set that comes in, opened to its tasks. -/
import Derived.Test.YtklnokhabomnfaaMk
import Derived.ProofKit
import Derived.OpenShut
import Derived.Deep.Slices
import Derived.Deep.Fields
import Derived.Lib.SmallJoins
namespace Go.Proofs.Ytklnokhabomnfaa
open Go.ChangeShapes Go.WideShapes Go.RowKit

section
variable {H : Type} {enc : TypeId × Value → H} {W : World}
theorem cells3 : Try.prog.cellsOf 3 = 1 := by kernel_rfl
theorem cells9 : Try.prog.cellsOf 9 = 1 := by kernel_rfl
theorem cells39 : Try.prog.cellsOf 39 = 11 := by kernel_rfl
theorem take_one {cs : List Value} {j : Nat} {v : Value} (h : (cs.drop j).take 1 = [v]) : cs[j]? = some v := by
  have : ((cs.drop j).take 1)[0]? = some v := by rw [h]; rfl
  rw [List.getElem?_take, if_pos (by omega), List.getElem?_drop] at this
  exact this
theorem int_field {xs : List (DataW H × List MemPlace)} {m j : Nat} {cs : List Value} (hx : j < xs.length) (h : DataW.trod enc Try.prog W 0 (fun _ => true) true m 3 ((cs.drop j).take (Try.prog.cellsOf 3)) = xs[j]?) : ∃ n : Int, cs[j]? = some (.int .i64 n) := by
  rw [List.getElem?_eq_getElem hx] at h
  obtain ⟨n, hn, _⟩ := DataW.trod_int Try.underlying3 h
  rw [cells3] at hn
  exact ⟨n, take_one hn⟩
theorem text_field {xs : List (DataW H × List MemPlace)} {m j : Nat} {cs : List Value} (hx : j < xs.length) (h : DataW.trod enc Try.prog W 0 (fun _ => true) true m 9 ((cs.drop j).take (Try.prog.cellsOf 9)) = xs[j]?) : ∃ n : ByteArray, cs[j]? = some (.string n) := by
  rw [List.getElem?_eq_getElem hx] at h
  obtain ⟨n, hn, _⟩ := DataW.trod_string Try.underlying9 h
  rw [cells9] at hn
  exact ⟨n, take_one hn⟩
theorem task_of {m : Nat} {cs : List Value} {y : DataW H × List MemPlace} (h : DataW.trod enc Try.prog W 0 (fun _ => true) true m 39 cs = some y) : ∃ t : Tk, ∀ (j : Nat) (v : Value), (cellsK t)[j]? = some v → cs[j]? = some v := by
  obtain ⟨xs, q, _, _, _, hxl, hf⟩ := DataW.trod_struct Try.underlying39 h
  have hl : xs.length = 11 := hxl
  obtain ⟨n0, e0⟩ := text_field (j := 0) (by omega) (hf 0 _ rfl)
  obtain ⟨n1, e1⟩ := int_field (j := 1) (by omega) (hf 1 _ rfl)
  obtain ⟨n2, e2⟩ := int_field (j := 2) (by omega) (hf 2 _ rfl)
  obtain ⟨n3, e3⟩ := int_field (j := 3) (by omega) (hf 3 _ rfl)
  obtain ⟨n4, e4⟩ := int_field (j := 4) (by omega) (hf 4 _ rfl)
  obtain ⟨n5, e5⟩ := int_field (j := 5) (by omega) (hf 5 _ rfl)
  obtain ⟨n6, e6⟩ := int_field (j := 6) (by omega) (hf 6 _ rfl)
  obtain ⟨n7, e7⟩ := int_field (j := 7) (by omega) (hf 7 _ rfl)
  obtain ⟨n8, e8⟩ := int_field (j := 8) (by omega) (hf 8 _ rfl)
  obtain ⟨n9, e9⟩ := int_field (j := 9) (by omega) (hf 9 _ rfl)
  obtain ⟨n10, e10⟩ := int_field (j := 10) (by omega) (hf 10 _ rfl)
  refine ⟨⟨n0, n1, n2, n3, n4, n5, n6, n7, n8, n9, n10⟩, fun j v hv => ?_⟩
  match j, hv with
  | 0, hv => rw [e0]; exact hv
  | 1, hv => rw [e1]; exact hv
  | 2, hv => rw [e2]; exact hv
  | 3, hv => rw [e3]; exact hv
  | 4, hv => rw [e4]; exact hv
  | 5, hv => rw [e5]; exact hv
  | 6, hv => rw [e6]; exact hv
  | 7, hv => rw [e7]; exact hv
  | 8, hv => rw [e8]; exact hv
  | 9, hv => rw [e9]; exact hv
  | 10, hv => rw [e10]; exact hv
  | j + 11, hv => simp [cellsK] at hv
theorem tasks_of {fuel : Nat} {v : Value} {y : DataW H × List MemPlace} (h : DataW.trod enc Try.prog W 0 (fun _ => true) true fuel 22 [v] = some y) : ∃ a len cap, v = .slice a len cap ∧ ∃ l : List Tk, l.length = len ∧ len ≤ maxLen ∧ Tasks W a cap l := by
  rcases Go.Deep.open_slice Try.underlying22 h with ⟨hcs, _⟩ | ⟨x, len, cap, m, n, D, Pl, hcs, _, hl, hm, hmm, _, hi⟩
  · have : v = .slice none 0 0 := by simpa using hcs
    exact ⟨none, 0, 0, this, [], rfl, Nat.zero_le _, Nat.le_refl _, fun h => by cases h⟩
  · have hv : v = .slice (some x) len cap := by simpa using hcs
    have hm' : m = cap := by simpa using hmm
    subst hm'
    have each : ∀ i, i < m → ∃ t : Tk, ∀ (j : Nat) (v : Value), (cellsK t)[j]? = some v → W.cell? (x.add (i * 11 + j)) = some v := by
      intro i him
      obtain ⟨cs', hc, ht⟩ := hi i him
      rw [cells39] at hc
      obtain ⟨_, hcl, hat⟩ := World.cells?_some hc
      obtain ⟨t, htt⟩ := task_of ht
      refine ⟨t, fun j v hj => ?_⟩
      have hj11 : j < 11 := (List.getElem?_eq_some_iff.1 hj).1
      have h1 := hat j hj11
      rw [htt j v hj] at h1
      rw [← h1, Go.Deep.add_add]
    obtain ⟨q, hq⟩ := @Go.Deep.choose_lt Tk ⟨⟨⟨#[]⟩, 0, 0, 0, 0, 0, 0, 0, 0, 0, 0⟩⟩ _ _ each
    refine ⟨some x, len, m, hv, (List.range len).map q, by simp, by omega, by simp; exact hl, fun h0 => ?_⟩
    have hpos : 0 < m := by simp at h0; omega
    obtain ⟨b, off, spot⟩ := x
    have hc0 := hq 0 hpos 0 _ rfl
    have hspot : spot = none := by simpa [Addr.add] using World.cell?_spot hc0
    subst hspot
    refine ⟨b, off, rfl, by have := block_lt_of_cell hc0; simpa [Addr.add] using this, fun i u hu j v hj => ?_⟩
    have hi : i < len := by have := (List.getElem?_eq_some_iff.1 hu).1; simpa using this
    have hqu : q i = u := by simpa [hi] using hu
    have := hq i (by omega) j v (by rw [hqu]; exact hj)
    rw [Addr.add_lit] at this
    rw [Nat.add_assoc]; exact this
/-- A set that comes in. -/
theorem set_of {r : Reach} {b0 : Nat} {v : Value} {d : DataW H} {p : List MemPlace} (hv : Value.okWide Try.prog W r b0 24 v) (h : DataW.Trod enc Try.prog W 0 (fun _ => true) true 24 v d p) :
    ∃ (b : Int) (a : Option Addr) (len cap : Nat) (l : List Tk), v = .agg #[.int .i64 b, .slice a len cap] ∧ l.length = len ∧ len ≤ maxLen ∧ Tasks W a cap l := by
  obtain ⟨v0, v1, y0, y1, n, rfl, _, _, h0, h1⟩ := Go.Joins.open_agg2 Try.underlying24 (by kernel_rfl) (by kernel_rfl) hv h
  obtain ⟨b, hb, _⟩ := DataW.trod_int Try.underlying3 h0
  obtain ⟨a, len, cap, rfl, l, h2, h3, h4⟩ := tasks_of h1
  have : v0 = .int .i64 b := by simpa using hb
  subst this
  exact ⟨b, a, len, cap, l, rfl, h2, h3, h4⟩
/-- A task that comes in. -/
theorem task_in {r : Reach} {b0 : Nat} {v : Value} {d : DataW H} {p : List MemPlace} (hv : Value.okWide Try.prog W r b0 39 v) (h : DataW.Trod enc Try.prog W 0 (fun _ => true) true 39 v d p) :
    ∃ t : Tk, v = aggK t := by
  obtain ⟨cs, rfl, hs⟩ := okWide_struct Try.underlying39 hv
  obtain ⟨fuel, hf⟩ := h
  obtain ⟨xs, q, _, _, _, hxl, hf⟩ := DataW.trod_struct Try.underlying39 hf
  have hl : xs.length = 11 := hxl
  obtain ⟨n0, e0⟩ := text_field (j := 0) (by omega) (hf 0 _ rfl)
  obtain ⟨n1, e1⟩ := int_field (j := 1) (by omega) (hf 1 _ rfl)
  obtain ⟨n2, e2⟩ := int_field (j := 2) (by omega) (hf 2 _ rfl)
  obtain ⟨n3, e3⟩ := int_field (j := 3) (by omega) (hf 3 _ rfl)
  obtain ⟨n4, e4⟩ := int_field (j := 4) (by omega) (hf 4 _ rfl)
  obtain ⟨n5, e5⟩ := int_field (j := 5) (by omega) (hf 5 _ rfl)
  obtain ⟨n6, e6⟩ := int_field (j := 6) (by omega) (hf 6 _ rfl)
  obtain ⟨n7, e7⟩ := int_field (j := 7) (by omega) (hf 7 _ rfl)
  obtain ⟨n8, e8⟩ := int_field (j := 8) (by omega) (hf 8 _ rfl)
  obtain ⟨n9, e9⟩ := int_field (j := 9) (by omega) (hf 9 _ rfl)
  obtain ⟨n10, e10⟩ := int_field (j := 10) (by omega) (hf 10 _ rfl)
  refine ⟨⟨n0, n1, n2, n3, n4, n5, n6, n7, n8, n9, n10⟩, ?_⟩
  rw [cells39] at hs
  obtain ⟨cl⟩ := cs
  have hcl : cl.length = 11 := hs
  match cl, hcl with
  | [a0, a1, a2, a3, a4, a5, a6, a7, a8, a9, a10], _ =>
    simp [Value.cells] at e0 e1 e2 e3 e4 e5 e6 e7 e8 e9 e10
    subst e0 e1 e2 e3 e4 e5 e6 e7 e8 e9 e10
    rfl
end
theorem u16_of {a : Int} (h : (Lit.int .u16 a).wf = true) : 0 ≤ a ∧ a < 65536 := by
  have h' : IntKind.u16.min ≤ a ∧ a ≤ IntKind.u16.max := by simpa [Lit.wf] using h
  have e1 : IntKind.u16.min = 0 := rfl
  have e2 : IntKind.u16.max = 65535 := rfl
  omega
end Go.Proofs.Ytklnokhabomnfaa
