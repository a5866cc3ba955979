/- The reader as it lies in memory; tokens in a row of the call's own. -/
import Derived.Test.YtbijgmaeechmoaaDoorLRe
import Derived.Test.YtbijgmaeechmoaaDoorLVl
import Derived.Deep.RegionHeld3
namespace Go.Proofs.YtbijgmaeechmoaaDoor.Lx
open Go.RowKit

def cellsT (t : Tok) : List Value := [.int .i64 (t.kind : Nat), .string ⟨t.text.toArray⟩, .int .i64 (t.value : Nat), .int .i64 (t.line : Nat), .int .i64 (t.col : Nat)]
/-- Tokens as cells. -/
def flatT : List Tok → List Value
  | [] => []
  | t :: l => cellsT t ++ flatT l
theorem length_flatT : ∀ l, (flatT l).length = l.length * 5
  | [] => rfl
  | t :: l => by simp [flatT, cellsT, length_flatT l]; omega
theorem flatT_append : ∀ a b, flatT (a ++ b) = flatT a ++ flatT b
  | [], _ => rfl
  | t :: a, b => by simp [flatT, flatT_append a b]
theorem flatT_at : ∀ {l : List Tok} {i : Nat} {t : Tok} (j : Nat) (v : Value), l[i]? = some t → (cellsT t)[j]? = some v → (flatT l)[i * 5 + j]? = some v
  | [], i, t, j, v, h, _ => by simp at h
  | q :: l, 0, t, j, v, h, hj => by
    have : q = t := by simpa using h
    subst this
    have hlt : j < (cellsT q).length := (List.getElem?_eq_some_iff.1 hj).1
    rw [flatT, Nat.zero_mul, Nat.zero_add, List.getElem?_append_left hlt]; exact hj
  | q :: l, i + 1, t, j, v, h, hj => by
    rw [flatT, List.getElem?_append_right (by simp [cellsT]; omega), show (i + 1) * 5 + j - (cellsT q).length = i * 5 + j by simp [cellsT]; omega]
    exact flatT_at j v (by simpa using h) hj
theorem one_cellsT (t : Tok) : ∀ u ∈ cellsT t, u.oneCell' = true := by
  intro u hu
  simp only [cellsT, List.mem_cons, List.not_mem_nil, or_false] at hu
  rcases hu with rfl | rfl | rfl | rfl | rfl <;> rfl

section
variable {w w' : World} {B : Nat} {e : TypeId} {size : Nat} {v : Value} {n : Nat} {cs : List Value}
theorem own_same (h : w.ownsRow B e size v n cs) (hs : ∀ k, v.ownBlock = some k → w'.heap[k]? = w.heap[k]?) : w'.ownsRow B e size v n cs := by
  refine ⟨h.1, ?_⟩
  rcases h.2 with hn | ⟨g, cap, cur, rfl, hb, hg, rest⟩
  · exact .inl hn
  · exact .inr ⟨g, cap, cur, rfl, hb, by rw [hs g rfl]; exact hg, rest⟩
theorem own_form (h : w.ownsRow B e size v n cs) : ∃ a cap, v = .slice a n cap ∧ n ≤ cap ∧ (0 < n → ∃ g, a = some ⟨g, 0, none⟩ ∧ ∀ j u, cs[j]? = some u → w.cell? ⟨g, j, none⟩ = some u) := by
  rcases h.2 with ⟨rfl, rfl⟩ | ⟨g, cap, cur, rfl, hb, hg, hnc, _, hsz, ht⟩
  · exact ⟨none, 0, rfl, Nat.le_refl _, fun h => by omega⟩
  · refine ⟨_, cap, rfl, hnc, fun _ => ⟨g, rfl, fun j u hu => ?_⟩⟩
    rw [cell_of_row w g j cur e (0, 0) hg]
    rw [← ht, List.getElem?_take] at hu
    split at hu
    · rw [← Array.getElem?_toList]; exact hu
    · cases hu
theorem own_lt (h : w.ownsRow B e size v n cs) {k : Nat} (hk : v.ownBlock = some k) : B ≤ k ∧ k < w.heap.size := by
  rcases h.2 with ⟨rfl, _⟩ | ⟨g, cap, cur, rfl, hb, hg, _⟩
  · cases hk
  · have : g = k := by simpa [Value.ownBlock] using hk
    subst this
    refine ⟨hb, ?_⟩
    rcases Nat.lt_or_ge g w.heap.size with hlt | hge
    · exact hlt
    · rw [Array.getElem?_eq_none hge] at hg; cases hg
end

/-- A slice that begins at A reads as the tokens ts. -/
def Toks (w : World) (A : Option Addr) (ts : List Tok) : Prop :=
  0 < ts.length → ∃ b off, A = some ⟨b, off, none⟩ ∧ b < w.heap.size ∧ ∀ i t, ts[i]? = some t → ∀ j v, (cellsT t)[j]? = some v → w.cell? ⟨b, off + i * 5 + j, none⟩ = some v
section
variable {w w' : World} {A : Option Addr} {ts : List Tok} {B n : Nat} {v : Value}
theorem Toks.below (h : Toks w A ts) (hB : w.heap.size ≤ B) (hb : Below B w w') : Toks w' A ts := by
  intro h0
  obtain ⟨b, off, ha, hlt, hc⟩ := h h0
  refine ⟨b, off, ha, Nat.lt_of_lt_of_le hlt hb.size, fun i t hi j v hj => ?_⟩
  rw [hb.cell (p := ⟨b, off + i * 5 + j, none⟩) (Nat.lt_of_lt_of_le hlt hB)]; exact hc i t hi j v hj
theorem Toks.drewN (h : Toks w A ts) (n : Nat) : Toks (w.drewN n) A ts := h
theorem Toks.own (h : w.ownsRow B 61 5 v n (flatT ts)) : ∃ A c, v = .slice A n c ∧ n = ts.length ∧ n ≤ c ∧ Toks w A ts ∧ ∀ x, A = some x → B ≤ x.block := by
  have hlen := h.1
  rw [length_flatT] at hlen
  have hn : n = ts.length := by omega
  obtain ⟨A, c, rfl, hc, hat⟩ := own_form h
  refine ⟨A, c, rfl, hn, hc, fun h0 => ?_, fun x hx => ?_⟩
  · obtain ⟨g, rfl, hcell⟩ := hat (by omega)
    refine ⟨g, 0, rfl, (own_lt h rfl).2, fun i t hi j v hj => ?_⟩
    rw [Nat.zero_add]
    exact hcell _ _ (flatT_at j v hi hj)
  · subst hx
    exact (own_lt h (k := x.block) rfl).1
end

/-- A reader at g: the text's slice, how far it is read, and the tokens up to there; all of it new since w0. -/
structure Rdr (w0 : World) (g : Nat) (a : Option Addr) (len cap i line beg : Nat) (ts : List Tok) (w : World) : Prop where
  below : Below w0.heap.size w0 w
  ge : w0.heap.size ≤ g
  body : ∃ v, Lies w g 74 #[.slice a len cap, .int .i64 (i : Int), .int .i64 (line : Int), .int .i64 (beg : Int), v] ∧ w.ownsRow w0.heap.size 61 5 v ts.length (flatT ts) ∧ v.ownBlock ≠ some g
theorem Rdr.drewN {w0 : World} {g : Nat} {a : Option Addr} {len cap i line beg : Nat} {ts : List Tok} {w : World} (h : Rdr w0 g a len cap i line beg ts w) (n : Nat) : Rdr w0 g a len cap i line beg ts (w.drewN n) := by
  obtain ⟨v, h1, h2, h3⟩ := h.body
  exact ⟨below_drewN h.below n, h.ge, v, h1, h2, h3⟩
/-- The reader's place is set anew. -/
theorem Rdr.goto {w0 : World} {g : Nat} {a : Option Addr} {len cap i line beg : Nat} {ts : List Tok} {w : World} (h : Rdr w0 g a len cap i line beg ts w) (k : Nat) : Rdr w0 g a len cap k line beg ts (w.setCell ⟨g, 1, none⟩ (.int .i64 (k : Int))) := by
  obtain ⟨v, h1, h2, h3⟩ := h.body
  refine ⟨h.below.setCell h.ge _, h.ge, v, by simpa using h1.here 1 (.int .i64 (k : Int)), own_same h2 (fun b hb => Below.heap_setCell w _ _ b (fun e => h3 (by rw [hb, e]))), h3⟩
theorem Rdr.goLine {w0 : World} {g : Nat} {a : Option Addr} {len cap i line beg : Nat} {ts : List Tok} {w : World} (h : Rdr w0 g a len cap i line beg ts w) (k : Nat) : Rdr w0 g a len cap i k beg ts (w.setCell ⟨g, 2, none⟩ (.int .i64 (k : Int))) := by
  obtain ⟨v, h1, h2, h3⟩ := h.body
  refine ⟨h.below.setCell h.ge _, h.ge, v, by simpa using h1.here 2 (.int .i64 (k : Int)), own_same h2 (fun b hb => Below.heap_setCell w _ _ b (fun e => h3 (by rw [hb, e]))), h3⟩
theorem Rdr.goBegin {w0 : World} {g : Nat} {a : Option Addr} {len cap i line beg : Nat} {ts : List Tok} {w : World} (h : Rdr w0 g a len cap i line beg ts w) (k : Nat) : Rdr w0 g a len cap i line k ts (w.setCell ⟨g, 3, none⟩ (.int .i64 (k : Int))) := by
  obtain ⟨v, h1, h2, h3⟩ := h.body
  refine ⟨h.below.setCell h.ge _, h.ge, v, by simpa using h1.here 3 (.int .i64 (k : Int)), own_same h2 (fun b hb => Below.heap_setCell w _ _ b (fun e => h3 (by rw [hb, e]))), h3⟩

set_option maxHeartbeats 400000 in
/-- The place in the line. -/
theorem col (g i beg : Nat) {w : World} (hb : beg ≤ i) (hi : i ≤ 1000000) (c1 : w.cell? ⟨g, 1, none⟩ = some (.int .i64 (i : Int))) (c3 : w.cell? ⟨g, 3, none⟩ = some (.int .i64 (beg : Int))) :
    Calls Tryd.prog 38 #[.pointer (some ⟨g, 0, none⟩)] w (Saw (.int .i64 ((i - beg + 1 : Nat) : Int)) w) := by
  go_enter Tryd.func38, Tryd.ntmps38
  go_wp2
  go_quiet (fail)
  go_wp2
  go_ret
  exact ⟨ret_int (by omega), _, rfl⟩
end Go.Proofs.YtbijgmaeechmoaaDoor.Lx
