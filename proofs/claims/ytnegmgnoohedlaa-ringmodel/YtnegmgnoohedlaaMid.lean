/- The list that the statement keeps beside the ring: a slice in a block of the call's own, cut at its front and appended to. -/
import Derived.Test.YtnegmgnoohedlaaOpen
import Derived.ArgAppend
namespace Go.Proofs.Ytnegmgnoohedlaa
open Go.RowKit

/-- The slice '.slice A xs.length cap' reads as xs; its block is neither the ring's nor one that w0 had. -/
def Mid (w0 : World) (p g : Nat) (W : World) (A : Option Addr) (cap : Nat) (xs : List Int) : Prop :=
  (A = none ∧ cap = 0 ∧ xs = []) ∨
  ∃ b off cur, A = some ⟨b, off, none⟩ ∧ w0.heap.size ≤ b ∧ b ≠ p ∧ b ≠ g ∧ Lies W b 3 cur ∧ off + cap ≤ cur.size ∧ xs.length ≤ cap ∧ ∀ i u, xs[i]? = some u → cur[off + i]? = some (.int .i64 u)

/-- W' has the ring's blocks, and w0's, as W has them. -/
structure Spares (w0 : World) (p g : Nat) (W W' : World) : Prop where
  os : W'.os = W.os
  tape : W'.tape = W.tape
  output : W'.output = W.output
  size : W.heap.size ≤ W'.heap.size
  block : ∀ k, k < W.heap.size → (k = p ∨ k = g ∨ k < w0.heap.size) → W'.heap[k]? = W.heap[k]?

section
variable {w0 W W' : World} {p g n cap : Nat} {A : Option Addr} {xs ys : List Int}
theorem Spares.has (h : Spares w0 p g W W') (hh : IHas w0 p g n ys W) : IHas w0 p g n ys W' := by
  obtain ⟨h1, h2, ⟨f, hr⟩, hb⟩ := hh
  obtain ⟨cs, hl, hs⟩ := hr.body
  refine ⟨h1, h2, ⟨f, hr.ne, hr.n1, hr.n2, hr.f1, hr.len, ?_, cs, ?_, hs⟩, ?_⟩
  · unfold Lies; rw [h.block p hr.ltp (.inl rfl)]; exact hr.head
  · unfold Lies; rw [h.block g hl.lt (.inr (.inl rfl))]; exact hl
  · exact ⟨h.os.trans hb.os, h.tape.trans hb.tape, h.output.trans hb.output, Nat.le_trans hb.size h.size, fun k hk => (h.block k (Nat.lt_of_lt_of_le hk hb.size) (.inr (.inr hk))).trans (hb.block k hk)⟩

theorem Mid.nil (w0 : World) (p g : Nat) (W : World) : Mid w0 p g W none 0 [] := .inl ⟨rfl, rfl, rfl⟩
theorem Mid.turns (h : Mid w0 p g W A cap xs) (ht : Turns p g W W') : Mid w0 p g W' A cap xs := by
  rcases h with h | ⟨b, off, cur, rfl, h1, h2, h3, hl, rest⟩
  · exact .inl h
  · exact .inr ⟨b, off, cur, rfl, h1, h2, h3, hl.turns ht h2 h3, rest⟩
theorem Mid.below (h : Mid w0 p g W A cap xs) (hb : Below W.heap.size W W') : Mid w0 p g W' A cap xs := h.turns (Turns.of_below hb)
theorem Mid.drewN (h : Mid w0 p g W A cap xs) (k : Nat) : Mid w0 p g (W.drewN k) A cap xs := h.turns ((Turns.refl p g W).drewN k)
theorem Mid.reads (h : Mid w0 p g W A cap xs) : Reads (Value.int .i64) W A xs := by
  intro h0
  rcases h with ⟨_, _, rfl⟩ | ⟨b, off, cur, rfl, _, _, _, hl, _, _, hc⟩
  · cases h0
  · exact ⟨b, off, rfl, hl.lt, fun i u hu => by rw [hl.cell]; exact hc i u hu⟩
theorem Mid.fits (h : Mid w0 p g W A cap xs) : xs.length ≤ cap := by
  rcases h with ⟨_, _, rfl⟩ | ⟨b, off, cur, rfl, _, _, _, _, _, hlc, _⟩
  · exact Nat.zero_le _
  · exact hlc
/-- m[1:] -/
theorem Mid.cut {x : Int} (h : Mid w0 p g W A cap (x :: xs)) : Mid w0 p g W (if cap = 1 then A else A.map (·.add 1)) (cap - 1) xs := by
  rcases h with ⟨_, _, h⟩ | ⟨b, off, cur, rfl, h1, h2, h3, hl, hs, hlc, hc⟩
  · cases h
  · simp only [List.length_cons] at hlc
    by_cases hcap : cap = 1
    · have hx : xs = [] := List.eq_nil_of_length_eq_zero (by omega)
      subst hx
      rw [if_pos hcap]
      exact .inr ⟨b, off, cur, rfl, h1, h2, h3, hl, by omega, Nat.zero_le _, fun i u hu => by simp at hu⟩
    · rw [if_neg hcap]
      refine .inr ⟨b, off + 1, cur, by simp [Addr.add], h1, h2, h3, hl, by omega, by omega, fun i u hu => ?_⟩
      have := hc (i + 1) u (by simpa using hu)
      rw [show off + 1 + i = off + (i + 1) by omega]; exact this

theorem Mid.cut1 {x : Int} {b off : Nat} (h : Mid w0 p g W (some ⟨b, off, none⟩) cap (x :: xs)) (hc : cap ≠ 1) : Mid w0 p g W (some ⟨b, off + 1, none⟩) (cap - 1) xs := by
  have := h.cut
  rw [if_neg hc] at this
  simpa [Addr.add] using this
theorem Mid.cut0 {x : Int} {b off : Nat} (h : Mid w0 p g W (some ⟨b, off, none⟩) 1 [x]) : Mid w0 p g W (some ⟨b, off, none⟩) 0 [] := by
  have := h.cut
  rw [if_pos rfl] at this
  exact this
theorem Mid.some_ {x : Int} (h : Mid w0 p g W A cap (xs ++ [x])) : ∃ b off, A = some ⟨b, off, none⟩ := by
  rcases h with ⟨_, _, h⟩ | ⟨b, off, cur, rfl, _⟩
  · simp at h
  · exact ⟨b, off, rfl⟩

theorem mid_of_own {v : Value} {zs : List Int} {m : Nat} (hp : p < W.heap.size) (hg : g < W.heap.size) (h0 : w0.heap.size ≤ W.heap.size) (hm : zs.length = m) (ho : W'.ownsRow W.heap.size 3 1 v m (zs.map (Value.int .i64))) (h1 : 0 < m) :
    ∃ A' cap', v = .slice A' zs.length cap' ∧ Mid w0 p g W' A' cap' zs := by
  rcases ho.2 with ⟨_, e⟩ | ⟨b, c, cur, rfl, hb, hl, hnc, _, hcs, ht⟩
  · omega
  · subst hm
    refine ⟨_, c, rfl, .inr ⟨b, 0, cur, rfl, by omega, by omega, by omega, hl, by omega, by omega, fun i u hu => ?_⟩⟩
    have hi := (List.getElem?_eq_some_iff.1 hu).1
    have : (cur.toList.take (zs.length * 1))[i]? = some (Value.int .i64 u) := by rw [ht]; simp [hu]
    rw [List.getElem?_take, if_pos (by omega)] at this
    rw [Nat.zero_add]; simpa using this

/-- 'append(m, x)' in whatever way it goes. -/
theorem append_mid {ops : Array Oper} {rest : List Oper} {o : Oper} {a : Act} {Q : Exit → Act → World → Prop} (hgd : o.guard = none) (s y : Operand)
    (ho : o.op = .call { callee := .builtin .append, args := #[s, y], argTypes := #[28, 28] })
    (x : Int) (hs : a.eval s = .slice A xs.length cap) (hy : a.eval y = .slice (some ⟨W.heap.size, 0, none⟩) 1 1)
    (hm : Mid w0 p g W A cap xs) (hp : p < W.heap.size) (hg : g < W.heap.size) (h0 : w0.heap.size ≤ W.heap.size) (hlen : xs.length ≤ 1000)
    (h' : ∀ b' off' cap' W', Mid w0 p g W' (some ⟨b', off', none⟩) cap' (xs ++ [x]) → Spares w0 p g W W' → wpList Try.prog ops Q rest (a.put o.dst (.slice (some ⟨b', off', none⟩) (xs.length + 1) cap')) W') :
    wpList Try.prog ops Q (o :: rest) a (W.alloc (.cells #[.int .i64 x] 3)) := by
  have h : ∀ A' cap' W', Mid w0 p g W' A' cap' (xs ++ [x]) → Spares w0 p g W W' → wpList Try.prog ops Q rest (a.put o.dst (.slice A' (xs.length + 1) cap')) W' := by
    intro A' cap' W' hm hs
    obtain ⟨b', off', rfl⟩ := hm.some_
    exact h' b' off' cap' W' hm hs
  obtain ⟨i, hi, hz, h1, h8⟩ := I.info
  have hsz : (W.alloc (.cells #[.int .i64 x] 3)).heap.size = W.heap.size + 1 := by simp
  have hnew : ∀ j u, [Value.int .i64 x][j]? = some u → (W.alloc (.cells #[.int .i64 x] 3)).cell? ((⟨W.heap.size, 0, none⟩ : Addr).add j) = some u := by
    intro j u hu
    have hj : j = 0 := by have := (List.getElem?_eq_some_iff.1 hu).1; simp at this; omega
    subst hj
    have hu' : Value.int .i64 x = u := by simpa using hu
    subst hu'
    simp [Addr.add]
  have hone : ∀ u ∈ [Value.int .i64 x], u.oneCell' = true := by intro u hu; simp at hu; subst hu; rfl
  have grown : ∀ v' W', W'.ownsRow (W.alloc (.cells #[.int .i64 x] 3)).heap.size 3 1 v' (xs.length + 1) (xs.map (Value.int .i64) ++ [Value.int .i64 x]) → (W.alloc (.cells #[.int .i64 x] 3)).grownBy W' none → wpList Try.prog ops Q rest (a.put o.dst v') W' := by
    intro v' W' hown hgb
    obtain ⟨A', cap', rfl, hmid⟩ := mid_of_own (w0 := w0) (p := p) (g := g) (W := W.alloc (.cells #[.int .i64 x] 3)) (zs := xs ++ [x]) (m := xs.length + 1) (by omega) (by omega) (by omega) (by simp) (by simpa using hown) (by omega)
    have := h A' cap' W' hmid ⟨hgb.os, hgb.tape, hgb.output, by have := hgb.size; omega, fun k hk _ => (hgb.block k (by omega) (by simp)).trans (Below.heap_alloc W _ k hk)⟩
    simpa using this
  rcases hm with ⟨rfl, rfl, rfl⟩ | ⟨b, off, cur, rfl, hb0, hbp, hbg, hl, hcs, hlc, hc⟩
  · exact wpList_append_grows _ hgd s y 28 ho 3 i (.int .i64 0) 1 8 Try.underlying28 hi hz h1 h8 rfl (by omega) none 0 0 [] hs (fun _ => ⟨rfl, rfl⟩) rfl (fun b e => by cases e) _ 1 1 [.int .i64 x] hy rfl hnew hone (by omega) (by unfold maxLen; omega) (by omega)
      (fun v' W' h1 h2 => grown v' W' (by simpa using h1) h2)
  · have hl' : Lies (W.alloc (.cells #[.int .i64 x] 3)) b 3 cur := hl.alloc _
    refine wpList_append_arg _ hgd s y 28 ho 3 i (.int .i64 0) 1 8 Try.underlying28 hi hz h1 h8 rfl (by omega) b off xs.length cap (xs.map (Value.int .i64)) hs (by simp) ?_ _ 1 1 [.int .i64 x] hy rfl hnew hone ?_ (by unfold maxLen; omega) (by omega) ?_ (fun _ v' W' h1 h2 => grown v' W' h1 h2)
    · intro j u hu
      rw [List.getElem?_map] at hu
      obtain ⟨z, hz', rfl⟩ := Option.map_eq_some_iff.1 hu
      rw [hl'.cell]; exact hc j z hz'
    · intro hroom j hj
      have hj0 : j = 0 := by simp at hj; omega
      subst hj0
      rw [hl'.cell, hl'.thawed]
      refine ⟨?_, rfl⟩
      have : off + xs.length * 1 + 0 < cur.size := by omega
      rw [Array.getElem?_eq_getElem this]; rfl
    · intro hroom
      have hset : (W.alloc (.cells #[.int .i64 x] 3)).setCells b (off + xs.length * 1) [.int .i64 x] = (W.alloc (.cells #[.int .i64 x] 3)).setCell ⟨b, off + xs.length, none⟩ (.int .i64 x) := by
        simp [World.setCells]
      rw [hset]
      have := h (some ⟨b, off, none⟩) cap ((W.alloc (.cells #[.int .i64 x] 3)).setCell ⟨b, off + xs.length, none⟩ (.int .i64 x)) ?_ ?_
      · simpa using this
      · refine .inr ⟨b, off, cur.setIfInBounds (off + xs.length) (.int .i64 x), rfl, hb0, hbp, hbg, hl'.here _ _, by simpa using hcs, by simp; omega, fun i u hu => ?_⟩
        rw [Array.getElem?_setIfInBounds]
        by_cases hi : i < xs.length
        · rw [List.getElem?_append_left hi] at hu
          rw [if_neg (by omega)]
          exact hc i u hu
        · have hi' : i = xs.length := by
            have := (List.getElem?_eq_some_iff.1 hu).1
            simp at this; omega
          subst hi'
          have hlt : off + xs.length < cur.size := by omega
          simp at hu
          simp [hlt, hu]
      · refine ⟨rfl, rfl, rfl, by simp [World.setCell], fun k hk hkk => ?_⟩
        rw [Below.heap_setCell _ _ _ k (by simp; omega)]
        exact Below.heap_alloc W _ k hk
end
end Go.Proofs.Ytnegmgnoohedlaa
