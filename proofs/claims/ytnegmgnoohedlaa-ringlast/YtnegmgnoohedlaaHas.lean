/- A ring that the call made, among what the call may turn. -/
import Derived.Test.YtnegmgnoohedlaaSame
import Derived.Test.YtnegmgnoohedlaaSE
namespace Go.Proofs.Ytnegmgnoohedlaa
open Go.RowKit

/-- In W, behind w0, there is a ring with the list xs that w0 had not; what w0 had is as it was. -/
def Has {α : Type} (emb : α → Value) (T E : TypeId) (w0 : World) (p g n : Nat) (xs : List α) (W : World) : Prop :=
  w0.heap.size ≤ p ∧ w0.heap.size ≤ g ∧ (∃ f, IsRing emb T E W p g n f xs) ∧ Below w0.heap.size w0 W
section
variable {α : Type} {emb : α → Value} {T E : TypeId} {w0 W W' : World} {p g n : Nat} {xs ys : List α}
theorem Has.ring (h : Has emb T E w0 p g n xs W) : ∃ f, IsRing emb T E W p g n f xs := h.2.2.1
theorem Has.below (h : Has emb T E w0 p g n xs W) : Below w0.heap.size w0 W := h.2.2.2
theorem Has.turn (h : Has emb T E w0 p g n xs W) (hr : ∃ f, IsRing emb T E W' p g n f ys) (ht : Turns p g W W') : Has emb T E w0 p g n ys W' :=
  ⟨h.1, h.2.1, hr, h.2.2.2.trans (ht.below h.1 h.2.1 h.2.2.2.size)⟩
theorem Has.drewN (h : Has emb T E w0 p g n xs W) (k : Nat) : Has emb T E w0 p g n xs (W.drewN k) :=
  let ⟨f, hr⟩ := h.2.2.1
  ⟨h.1, h.2.1, ⟨f, hr.drewN k⟩, below_drewN h.2.2.2 k⟩
theorem Has.new (hp : w0.heap.size ≤ p) (hg : w0.heap.size ≤ g) (hr : IsRing emb T E W p g n 0 []) (hb : Below w0.heap.size w0 W) : Has emb T E w0 p g n ([] : List α) W := ⟨hp, hg, ⟨0, hr⟩, hb⟩
theorem Has.more (h : Has emb T E w0 p g n xs W) (hb : Below W.heap.size W W') : Has emb T E w0 p g n xs W' :=
  let ⟨f, hr⟩ := h.2.2.1
  ⟨h.1, h.2.1, ⟨f, hr.below_all hb⟩, h.2.2.2.trans (hb.mono h.2.2.2.size)⟩
theorem Has.eq (h : Has emb T E w0 p g n xs W) (e : xs = ys) : Has emb T E w0 p g n ys W := e ▸ h
end
/-- A slice as the statements' arguments lie there reads as its beginning. -/
theorem Reads.mk {α : Type} {emb : α → Value} {w : World} {x : Addr} {len cap : Nat} {zs : List α} (hl : len ≤ cap) (hz : zs.length = cap) (hcell : ∀ i u, zs[i]? = some u → w.cell? (x.add i) = some (emb u)) : Reads emb w (some x) (zs.take len) := by
  intro h0
  have h0' : 0 < zs.length := by rw [List.length_take] at h0; omega
  obtain ⟨b, off, spot⟩ := x
  have hc := hcell 0 _ (List.getElem?_eq_getElem h0')
  have hspot : spot = none := by simpa [Addr.add] using World.cell?_spot hc
  subst hspot
  refine ⟨b, off, rfl, block_lt_of_cell hc, fun i u hu => ?_⟩
  rw [List.getElem?_take] at hu
  split at hu
  · have hci := hcell i u hu
    have hadd : (Addr.mk b off none).add i = ⟨b, off + i, none⟩ := by cases i <;> simp [Addr.add]
    rwa [hadd] at hci
  · cases hu
theorem Reads.nil {α : Type} {emb : α → Value} {w : World} {a : Option Addr} : Reads emb w a [] := fun h => by cases h
abbrev IHas := Has (Value.int .i64) 54 3
abbrev SHas := Has Value.string 57 9
end Go.Proofs.Ytnegmgnoohedlaa
