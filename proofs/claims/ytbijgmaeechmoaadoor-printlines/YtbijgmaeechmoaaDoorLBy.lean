/- Bytes in a row, and texts of them. -/
import Derived.Test.YtbijgmaeechmoaaDoorMem
import Derived.Test.YtbijgmaeechmoaaDoorLSp
import Derived.ProofKit
import Derived.OpenShut
import Derived.Deep.AppendLies
import Derived.Deep.Strs
import Derived.Laws.IdiomStrings
import Derived.Lib.ConvBytes
import Derived.Lib.Strings
namespace Go.Proofs.YtbijgmaeechmoaaDoor.Lx
open Go.ChangeShapes Go.WideShapes Go.RowKit

/-- A slice that begins at a, with room for cap, reads as the bytes l. -/
structure Bytes (w : World) (a : Option Addr) (cap : Nat) (l : List UInt8) : Prop where
  le : l.length ≤ cap
  form : (cap = 0) ∨ ∃ b off, a = some ⟨b, off, none⟩ ∧ b < w.heap.size ∧ ∀ i c, l[i]? = some c → w.cell? ⟨b, off + i, none⟩ = some (.int .u8 (c.toNat : Int))
section
variable {w w' : World} {a : Option Addr} {cap : Nat} {l : List UInt8} {B : Nat}
theorem Bytes.below (h : Bytes w a cap l) (hB : w.heap.size ≤ B) (hb : Below B w w') : Bytes w' a cap l := by
  refine ⟨h.le, ?_⟩
  rcases h.form with h0 | ⟨b, off, ha, hlt, hc⟩
  · exact .inl h0
  · refine .inr ⟨b, off, ha, Nat.lt_of_lt_of_le hlt hb.size, fun i c hi => ?_⟩
    rw [hb.cell (p := ⟨b, off + i, none⟩) (Nat.lt_of_lt_of_le hlt hB)]; exact hc i c hi
theorem Bytes.drewN (h : Bytes w a cap l) (n : Nat) : Bytes (w.drewN n) a cap l := ⟨h.le, h.form⟩
theorem Bytes.none : Bytes w none 0 [] := ⟨Nat.le_refl _, .inl rfl⟩
theorem Bytes.at_ (h : Bytes w a cap l) (h0 : 0 < cap) : ∃ b off, a = some ⟨b, off, Option.none⟩ ∧ b < w.heap.size ∧ ∀ i c, l[i]? = some c → w.cell? ⟨b, off + i, Option.none⟩ = some (.int .u8 (c.toNat : Int)) := by
  rcases h.form with h0' | h'
  · omega
  · exact h'
/-- 'string(b[i:i+n])' of such bytes. -/
theorem Bytes.text (h : Bytes w a cap l) {i n : Nat} (hn : i + n ≤ l.length) {b off : Nat} (ha : a = some ⟨b, off, Option.none⟩) (h0 : 0 < cap) (c : Nat) :
    (convert 40 9 (.slice (some ⟨b, off + i, Option.none⟩) n c)).run Tryd.prog w = .ok (.string ⟨((l.drop i).take n).toArray⟩) w := by
  obtain ⟨b', off', e, _, hc⟩ := h.at_ h0
  rw [ha] at e
  cases e
  have hl : ((l.drop i).take n).length = n := by simp; omega
  have := run_convert_bytes_back (P := Tryd.prog) w 40 9 5 ⟨b, off + i, Option.none⟩ c ((l.drop i).take n) Tryd.underlying40 Tryd.underlying5 Tryd.underlying9 (fun j hj => by
    rw [Addr.add_lit, Nat.add_assoc]
    refine hc (i + j) _ ?_
    rw [hl] at hj
    rw [List.getElem_take, List.getElem_drop, List.getElem?_eq_getElem])
  rw [hl] at this
  exact this
theorem text_none (w : World) (a : Option Addr) (c : Nat) : (convert 40 9 (.slice a 0 c)).run Tryd.prog w = .ok (.string ⟨#[]⟩) w := by
  cases a with
  | none => rw [run_convert_bytes_string w 40 9 5 none 0 c Tryd.underlying40 Tryd.underlying5 Tryd.underlying9]; rfl
  | some x =>
    have := run_convert_bytes_back (P := Tryd.prog) w 40 9 5 x c [] Tryd.underlying40 Tryd.underlying5 Tryd.underlying9 (fun j hj => by cases hj)
    exact this
end
section
variable {H : Type} {enc : TypeId × Value → H} {W : World} {a : Option Addr} {len cap : Nat} {d : DataW H} {p : List MemPlace}
theorem byte_of {n : Int} (h : (Lit.int .u8 n).wf = true) : 0 ≤ n ∧ n ≤ 255 := by
  have h' : IntKind.u8.min ≤ n ∧ n ≤ IntKind.u8.max := by simpa [Lit.wf] using h
  have e1 : IntKind.u8.min = 0 := rfl
  have e2 : IntKind.u8.max = 255 := rfl
  omega
theorem bytes_of (h : DataW.Trod enc Tryd.prog W 0 (fun _ => true) true 40 (.slice a len cap) d p) : ∃ l : List UInt8, l.length = len ∧ len ≤ maxLen ∧ Bytes W a cap l := by
  obtain ⟨fuel, hf⟩ := h
  rcases open_ints Tryd.underlying40 Tryd.underlying5 (by kernel_rfl) hf with ⟨hcs, _⟩ | ⟨x, ln, cp, zs, hcs, _, hl, hm, hz, _, hcell, hwz⟩
  · simp [Value.cells] at hcs
    obtain ⟨rfl, rfl, rfl⟩ := hcs
    exact ⟨[], rfl, Nat.zero_le _, Bytes.none⟩
  · simp [Value.cells] at hcs
    obtain ⟨rfl, rfl, rfl⟩ := hcs
    simp only [if_true] at hz
    have hlen : ((zs.take len).map fun n => UInt8.ofNat n.toNat).length = len := by simp; omega
    refine ⟨(zs.take len).map fun n => UInt8.ofNat n.toNat, hlen, by omega, by omega, ?_⟩
    by_cases h0 : cap = 0
    · exact .inl h0
    · obtain ⟨b, off, spot⟩ := x
      have hc0 := hcell 0 (by omega)
      have hspot : spot = none := by simpa [Addr.add] using World.cell?_spot hc0
      subst hspot
      have hblk := block_lt_of_cell hc0
      refine .inr ⟨b, off, rfl, by simpa [Addr.add] using hblk, fun i c hi => ?_⟩
      have hi' : i < len := by have := (List.getElem?_eq_some_iff.1 hi).1; rw [hlen] at this; exact this
      have hci := hcell i (by omega)
      rw [Addr.add_lit] at hci
      rw [hci]
      have hzi : zs[i]? = some (zs[i]'(by omega)) := List.getElem?_eq_getElem _
      have hb := byte_of (hwz (zs[i]'(by omega)) (List.getElem_mem _))
      rw [List.getElem?_map, List.getElem?_take, if_pos hi', hzi] at hi
      simp only [Option.map_some, Option.some.injEq] at hi
      subst hi
      rw [List.getD, hzi]
      simp only [Option.getD_some, UInt8.toNat_ofNat']
      congr 2
      omega
end
end Go.Proofs.YtbijgmaeechmoaaDoor.Lx
