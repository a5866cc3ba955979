/- A wheel in memory, told by its entries in order; what keeps it, and a place that is written anew. -/
import Derived.Test.YtlodfipiodlgdaaDe
import Derived.Test.YtlodfipiodlgdaaWl
namespace Go.Proofs.Ytlodfipiodlgdaa
open Go.RowKit

section
variable {w w' : World} {B : Nat} {e : TypeId} {size : Nat} {v : Value} {n : Nat} {cs : List Value}
theorem own_same (h : w.ownsRow B e size v n cs) (hs : ∀ k, v.ownBlock = some k → w'.heap[k]? = w.heap[k]?) : w'.ownsRow B e size v n cs := by
  refine ⟨h.1, ?_⟩
  rcases h.2 with hn | ⟨g, cap, cur, rfl, hb, hg, rest⟩
  · exact .inl hn
  · exact .inr ⟨g, cap, cur, rfl, hb, by rw [hs g rfl]; exact hg, rest⟩
end
/-- The places' rows: V; their blocks are of S, each place's its own. -/
structure Body (S : Nat → Prop) (B : Nat) (w : World) (p room : Nat) (now : Int) (m : List Ky) (V : Nat → Value) : Prop where
  lies : ∃ cs : Array Value, Lies w p 57 cs ∧ cs.size = 66 ∧ cs[0]? = some (.int .i64 (room : Int)) ∧ cs[1]? = some (.int .i64 now) ∧ ∀ j, j < 64 → cs[2 + j]? = some (V j)
  own : ∀ j, j < 64 → w.ownsRow B 60 2 (V j) (plc m j).length (flatQ (plc m j))
  inn : ∀ j k, j < 64 → (V j).ownBlock = some k → S k ∧ k ≠ p
  apart : ∀ i j k, i < 64 → j < 64 → (V i).ownBlock = some k → (V j).ownBlock = some k → i = j
/-- At p: a wheel at the time now, with room for so many entries; in order they are m. Its blocks are of S, all from B on. -/
structure Whl (S : Nat → Prop) (B : Nat) (w : World) (p room : Nat) (now : Int) (m : List Ky) : Prop where
  r1 : 1 ≤ room
  r2 : room ≤ 1024
  len : m.length ≤ room
  good : Good m
  n0 : 0 ≤ now
  n1 : now ≤ 1099511627776
  times : ∀ d ∈ m, now ≤ d.1 ∧ d.1 ≤ 1099511627776
  inS : ∀ k, S k → B ≤ k ∧ k < w.heap.size
  sp : S p
  body : ∃ V, Body S B w p room now m V
section
variable {S T : Nat → Prop} {B p room : Nat} {now : Int} {w w' w1 w2 : World} {m m' : List Ky} {V : Nat → Value}
theorem Body.same (h : Body S B w p room now m V) (sp : S p) (hs : ∀ k, S k → w'.heap[k]? = w.heap[k]?) : Body S B w' p room now m V := by
  obtain ⟨cs, h1, h2⟩ := h.lies
  exact ⟨⟨cs, by unfold Lies; rw [hs p sp]; exact h1, h2⟩, fun j hj => own_same (h.own j hj) (fun k hk => hs k (h.inn j k hj hk).1), h.inn, h.apart⟩
theorem Whl.same (h : Whl S B w p room now m) (hsz : w.heap.size ≤ w'.heap.size) (hs : ∀ k, S k → w'.heap[k]? = w.heap[k]?) : Whl S B w' p room now m := by
  obtain ⟨V, hV⟩ := h.body
  exact ⟨h.r1, h.r2, h.len, h.good, h.n0, h.n1, h.times, fun k hk => ⟨(h.inS k hk).1, Nat.lt_of_lt_of_le (h.inS k hk).2 hsz⟩, h.sp, V, hV.same h.sp hs⟩
theorem Whl.turns (h : Whl S B w p room now m) (ht : Turns T w w') (hd : ∀ k, S k → ¬ T k) : Whl S B w' p room now m :=
  h.same ht.size (fun k hk => ht.block k (h.inS k hk).2 (hd k hk))
theorem Whl.more (h : Whl S B w p room now m) (hb : Below w.heap.size w w') : Whl S B w' p room now m :=
  h.same hb.size (fun k hk => hb.block k (h.inS k hk).2)
theorem Whl.drewN (h : Whl S B w p room now m) (n : Nat) : Whl S B (w.drewN n) p room now m := h.same (Nat.le_refl _) (fun _ _ => rfl)
theorem Whl.eq (h : Whl S B w p room now m) (e : m = m') : Whl S B w p room now m' := e ▸ h
theorem Whl.lt (h : Whl S B w p room now m) : p < w.heap.size := (h.inS p h.sp).2
theorem Whl.base (h : Whl S B w p room now m) : B ≤ w.heap.size := Nat.le_of_lt (Nat.lt_of_le_of_lt (h.inS p h.sp).1 h.lt)
theorem Body.room_ (h : Body S B w p room now m V) : w.cell? ⟨p, 0, none⟩ = some (.int .i64 (room : Int)) := by
  obtain ⟨cs, h1, h2, h3, h4, h5⟩ := h.lies
  rw [h1.cell]; exact h3
theorem Body.now_ (h : Body S B w p room now m V) : w.cell? ⟨p, 1, none⟩ = some (.int .i64 now) := by
  obtain ⟨cs, h1, h2, h3, h4, h5⟩ := h.lies
  rw [h1.cell]; exact h4
theorem Body.place (h : Body S B w p room now m V) {j : Nat} (hj : j < 64) : w.cell? ⟨p, 2 + j, none⟩ = some (V j) := by
  obtain ⟨cs, h1, h2, h3, h4, h5⟩ := h.lies
  rw [h1.cell]; exact h5 j hj
theorem Body.thawed (h : Body S B w p room now m V) (i : Nat) : w.frozen? ⟨p, i, none⟩ = false := by
  obtain ⟨cs, h1, h2, h3, h4, h5⟩ := h.lies
  exact h1.thawed i
/-- A place's row, as a slice. -/
theorem Body.row (h : Body S B w p room now m V) {j : Nat} (hj : j < 64) : ∃ a c, V j = .slice a (plc m j).length c ∧ (plc m j).length ≤ c ∧ Keys w a c (plc m j) := by
  have ho := h.own j hj
  obtain ⟨a, c, e, hc, hat⟩ := own_form ho
  refine ⟨a, c, e, hc, hc, fun h0 => ?_⟩
  obtain ⟨g, rfl, hcell⟩ := hat h0
  refine ⟨g, 0, rfl, (own_lt ho (k := g) (by rw [e]; rfl)).2, fun i t hi q v hq => ?_⟩
  rw [Nat.zero_add]
  exact hcell _ _ (flatQ_at q v hi hq)
/-- A place is written anew. -/
theorem Body.upd (h : Body S B w p room now m V) (hin : ∀ k, S k → B ≤ k ∧ k < w.heap.size) (sp : S p) {j : Nat} {v : Value} (hj : j < 64) (hb : Below w.heap.size w w1) (ht : Turns (fun k => (V j).ownBlock = some k) w1 w2)
    (ho : w2.ownsRow B 60 2 v (plc m' j).length (flatQ (plc m' j))) (hv : ∀ k, v.ownBlock = some k → (V j).ownBlock = some k ∨ w1.heap.size ≤ k) (hm : ∀ i, i < 64 → i ≠ j → plc m' i = plc m i) :
    Body (fun k => S k ∨ v.ownBlock = some k) B (w2.setCell ⟨p, 2 + j, none⟩ v) p room now m' (fun i => if i = j then v else V i) ∧ Turns S w (w2.setCell ⟨p, 2 + j, none⟩ v) := by
  have s1 : w.heap.size ≤ w1.heap.size := hb.size
  have s2 : w1.heap.size ≤ w2.heap.size := ht.size
  have hp := (hin p sp).2
  have hpj : (V j).ownBlock ≠ some p := fun e => (h.inn j p hj e).2 rfl
  have up : ∀ k, k < w.heap.size → (V j).ownBlock ≠ some k → k ≠ p → (w2.setCell ⟨p, 2 + j, none⟩ v).heap[k]? = w.heap[k]? := fun k hk h1 h2 => by
    rw [Below.heap_setCell w2 _ _ k h2, ht.block k (by omega) h1]
    exact hb.block k hk
  have hvp : ∀ k, v.ownBlock = some k → k ≠ p := fun k hk e => by
    subst e
    rcases hv _ hk with h' | h'
    · exact hpj h'
    · omega
  refine ⟨⟨?_, ?_, ?_, ?_⟩, ?_⟩
  · obtain ⟨cs, h1, h2, h3, h4, h5⟩ := h.lies
    have hL : Lies w2 p 57 cs := (h1.below hb hp).turns ht hpj
    refine ⟨_, hL.here (2 + j) v, by simpa using h2, ?_, ?_, fun i hi => ?_⟩
    · rw [Array.getElem?_setIfInBounds, if_neg (by omega)]; exact h3
    · rw [Array.getElem?_setIfInBounds, if_neg (by omega)]; exact h4
    · rw [Array.getElem?_setIfInBounds]
      by_cases e : i = j
      · subst e
        rw [if_pos rfl, if_pos (by omega), if_pos rfl]
      · rw [if_neg (by omega), if_neg e]; exact h5 i hi
  · intro i hi
    by_cases e : i = j
    · subst e
      rw [if_pos rfl]
      exact own_same ho (fun k hk => Below.heap_setCell w2 _ _ k (hvp k hk))
    · rw [if_neg e, hm i hi e]
      refine own_same (h.own i hi) (fun k hk => up k (own_lt (h.own i hi) hk).2 (fun e' => e (h.apart i j k hi hj hk e')) (h.inn i k hi hk).2)
  · intro i k hi hk
    by_cases e : i = j
    · subst e
      rw [if_pos rfl] at hk
      exact ⟨.inr hk, hvp k hk⟩
    · rw [if_neg e] at hk
      exact ⟨.inl (h.inn i k hi hk).1, (h.inn i k hi hk).2⟩
  · have far : ∀ i k, i < 64 → i ≠ j → (V i).ownBlock = some k → v.ownBlock ≠ some k := fun i k hi hij hk e => by
      rcases hv k e with h' | h'
      · exact hij (h.apart i j k hi hj hk h')
      · have := (own_lt (h.own i hi) hk).2
        omega
    intro a b k ha hb' h1 h2
    by_cases ea : a = j <;> by_cases eb : b = j
    · rw [ea, eb]
    · rw [if_pos ea] at h1
      rw [if_neg eb] at h2
      exact absurd h1 (far b k hb' eb h2)
    · rw [if_neg ea] at h1
      rw [if_pos eb] at h2
      exact absurd h2 (far a k ha ea h1)
    · rw [if_neg ea] at h1
      rw [if_neg eb] at h2
      exact h.apart a b k ha hb' h1 h2
  · refine ⟨ht.os.trans hb.os, ht.tape.trans hb.tape, ht.output.trans hb.output, by simp [World.setCell]; omega, fun k hk hS => ?_⟩
    exact up k hk (fun e => hS (h.inn j k hj e).1) (fun e => hS (e ▸ sp))
/-- It answers v; the wheel's entries are m now, its blocks S and new ones; nothing else has turned. -/
def Acts (v : Value) (S : Nat → Prop) (B p room : Nat) (now : Int) (m : List Ky) (w : World) (e : Ending) (w' : World) : Prop :=
  e = .returned v ∧ (∃ S', Whl S' B w' p room now m ∧ (∀ k, S k → S' k) ∧ (∀ k, S' k → S k ∨ w.heap.size ≤ k)) ∧ Turns S w w'
theorem Whl.updS (h : Whl S B w p room now m) (hV : Body S B w p room now m V) {j : Nat} {v : Value} (hj : j < 64) (hb : Below w.heap.size w w1) (ht : Turns (fun k => (V j).ownBlock = some k) w1 w2)
    (ho : w2.ownsRow B 60 2 v (plc m' j).length (flatQ (plc m' j))) (hv : ∀ k, v.ownBlock = some k → (V j).ownBlock = some k ∨ w1.heap.size ≤ k) (hm : ∀ i, i < 64 → i ≠ j → plc m' i = plc m i)
    (hl : m'.length ≤ room) (hg : Good m') (htm : ∀ d ∈ m', now ≤ d.1 ∧ d.1 ≤ 1099511627776) :
    Whl (fun k => S k ∨ v.ownBlock = some k) B (w2.setCell ⟨p, 2 + j, none⟩ v) p room now m' ∧ Turns S w (w2.setCell ⟨p, 2 + j, none⟩ v) := by
  obtain ⟨k1, k2⟩ := hV.upd (m' := m') h.inS h.sp hj hb ht ho hv hm
  refine ⟨⟨h.r1, h.r2, hl, hg, h.n0, h.n1, htm, ?_, .inl h.sp, _, k1⟩, k2⟩
  have s1 : w.heap.size ≤ w1.heap.size := hb.size
  have s2 : w1.heap.size ≤ w2.heap.size := ht.size
  rintro k (hk | hk)
  · have := h.inS k hk
    exact ⟨this.1, by simp [World.setCell]; omega⟩
  · have := own_lt ho hk
    exact ⟨this.1, by simpa [World.setCell] using this.2⟩
theorem Whl.upd (h : Whl S B w p room now m) (hV : Body S B w p room now m V) {j : Nat} {v : Value} (hj : j < 64) (hb : Below w.heap.size w w1) (ht : Turns (fun k => (V j).ownBlock = some k) w1 w2)
    (ho : w2.ownsRow B 60 2 v (plc m' j).length (flatQ (plc m' j))) (hv : ∀ k, v.ownBlock = some k → (V j).ownBlock = some k ∨ w1.heap.size ≤ k) (hm : ∀ i, i < 64 → i ≠ j → plc m' i = plc m i)
    (hl : m'.length ≤ room) (hg : Good m') (htm : ∀ d ∈ m', now ≤ d.1 ∧ d.1 ≤ 1099511627776) :
    (∃ S', Whl S' B (w2.setCell ⟨p, 2 + j, none⟩ v) p room now m' ∧ (∀ k, S k → S' k) ∧ (∀ k, S' k → S k ∨ w.heap.size ≤ k)) ∧ Turns S w (w2.setCell ⟨p, 2 + j, none⟩ v) := by
  obtain ⟨k1, k2⟩ := h.updS hV hj hb ht ho hv hm hl hg htm
  refine ⟨⟨_, k1, fun k hk => .inl hk, fun k hk => ?_⟩, k2⟩
  rcases hk with hk | hk
  · exact .inl hk
  · rcases hv k hk with h' | h'
    · exact .inl (hV.inn j k hj h').1
    · exact .inr (Nat.le_trans hb.size h')
theorem Whl.wider {S' : Nat → Prop} (h : Whl S' B w p room now m) (hS : ∀ k, S' k → S k) (hin : ∀ k, S k → B ≤ k ∧ k < w.heap.size) : Whl S B w p room now m := by
  obtain ⟨V, hV⟩ := h.body
  exact ⟨h.r1, h.r2, h.len, h.good, h.n0, h.n1, h.times, hin, hS p h.sp, V, hV.lies, hV.own, fun j k hj hk => ⟨hS k (hV.inn j k hj hk).1, (hV.inn j k hj hk).2⟩, hV.apart⟩
/-- The time goes on. -/
theorem Whl.setNow (h : Whl S B w p room now m) {t : Int} (h0 : 0 ≤ t) (h1 : t ≤ 1099511627776) (ht : ∀ d ∈ m, t ≤ d.1) : Whl S B (w.setCell ⟨p, 1, none⟩ (.int .i64 t)) p room t m := by
  obtain ⟨V, hV⟩ := h.body
  refine ⟨h.r1, h.r2, h.len, h.good, h0, h1, fun d hd => ⟨ht d hd, (h.times d hd).2⟩, fun k hk => ⟨(h.inS k hk).1, by simpa [World.setCell] using (h.inS k hk).2⟩, h.sp, V, ?_, fun j hj => own_same (hV.own j hj) (fun k hk => Below.heap_setCell w _ _ k (hV.inn j k hj hk).2), hV.inn, hV.apart⟩
  obtain ⟨cs, c1, c2, c3, c4, c5⟩ := hV.lies
  refine ⟨_, c1.here 1 _, by simpa using c2, ?_, ?_, fun j hj => ?_⟩
  · rw [Array.getElem?_setIfInBounds, if_neg (by omega)]; exact c3
  · rw [Array.getElem?_setIfInBounds, if_pos rfl, if_pos (by omega)]
  · rw [Array.getElem?_setIfInBounds, if_neg (by omega)]; exact c5 j hj
end
end Go.Proofs.Ytlodfipiodlgdaa
