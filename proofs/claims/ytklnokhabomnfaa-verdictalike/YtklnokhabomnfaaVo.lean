/- A verdict that comes in, opened. -/
import Derived.Test.YtklnokhabomnfaaVq
namespace Go.Proofs.Ytklnokhabomnfaa
open Go.ChangeShapes Go.WideShapes Go.RowKit

section
variable {H : Type} {enc : TypeId × Value → H} {W : World}
theorem cells4 : Try.prog.cellsOf 4 = 1 := by kernel_rfl
theorem cells27 : Try.prog.cellsOf 27 = 1 := by kernel_rfl
theorem cells29 : Try.prog.cellsOf 29 = 3 := by kernel_rfl
theorem bool_field {xs : List (DataW H × List MemPlace)} {m j : Nat} {cs : List Value} (hx : j < xs.length) (h : DataW.trod enc Try.prog W 0 (fun _ => true) true m 4 ((cs.drop j).take (Try.prog.cellsOf 4)) = xs[j]?) : ∃ n : Bool, cs[j]? = some (.bool n) := by
  rw [List.getElem?_eq_getElem hx] at h
  obtain ⟨n, hn, _⟩ := DataW.trod_bool Try.underlying4 h
  rw [cells4] at hn
  exact ⟨n, take_one hn⟩
theorem ints_field {xs : List (DataW H × List MemPlace)} {m j : Nat} {cs : List Value} (hx : j < xs.length) (hj : j < cs.length) (h : DataW.trod enc Try.prog W 0 (fun _ => true) true m 27 ((cs.drop j).take (Try.prog.cellsOf 27)) = xs[j]?) :
    ∃ a len cap, cs[j]? = some (.slice a len cap) ∧ ∃ l : List Int, l.length = len ∧ len ≤ maxLen ∧ Ints W a cap l := by
  rw [List.getElem?_eq_getElem hx] at h
  have e : (cs.drop j).take (Try.prog.cellsOf 27) = [cs[j]] := by
    rw [cells27, List.drop_eq_getElem_cons hj]; rfl
  rw [e] at h
  obtain ⟨a, len, cap, hv, hl⟩ := ints_of h
  exact ⟨a, len, cap, by rw [List.getElem?_eq_getElem hj, hv], hl⟩
/-- A verdict that comes in. -/
theorem verdict_in {r : Reach} {b0 : Nat} {v : Value} {d : DataW H} {p : List MemPlace} (hv : Value.okWide Try.prog W r b0 29 v) (h : DataW.Trod enc Try.prog W 0 (fun _ => true) true 29 v d p) :
    ∃ (ok : Bool) (i : Int) (a : Option Addr) (len cap : Nat) (l : List Int), v = .agg #[.bool ok, .int .i64 i, .slice a len cap] ∧ l.length = len ∧ len ≤ maxLen ∧ Ints W a cap l := by
  obtain ⟨cs, rfl, hs⟩ := okWide_struct Try.underlying29 hv
  obtain ⟨fuel, hf⟩ := h
  obtain ⟨xs, q, _, _, _, hxl, hf⟩ := DataW.trod_struct Try.underlying29 hf
  have hl : xs.length = 3 := hxl
  rw [cells29] at hs
  obtain ⟨cl⟩ := cs
  have hcl : cl.length = 3 := hs
  match cl, hcl with
  | [x0, x1, x2], _ =>
    obtain ⟨n0, e0⟩ := bool_field (j := 0) (by omega) (hf 0 _ rfl)
    obtain ⟨n1, e1⟩ := int_field (j := 1) (by omega) (hf 1 _ rfl)
    obtain ⟨a, len, cap, e2, l, h1, h2, h3⟩ := ints_field (j := 2) (by omega) (by simp [Value.cells]) (hf 2 _ rfl)
    simp [Value.cells] at e0 e1 e2
    subst e0 e1 e2
    exact ⟨n0, n1, a, len, cap, l, rfl, h1, h2, h3⟩
end
end Go.Proofs.Ytklnokhabomnfaa
