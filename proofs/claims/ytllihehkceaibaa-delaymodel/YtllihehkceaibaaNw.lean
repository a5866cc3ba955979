/- A new guard, or a refusal. -/
import Derived.Test.YtllihehkceaibaaGo
import Derived.Test.YtllihehkceaibaaOp
import Derived.Deep.AppendLies
import Derived.Laws.OwnMore
import Derived.Laws.MakeOwn
import Derived.Lib.SliceRun
import Derived.Lib.AppendZeros
namespace Go.Proofs.Ytllihehkceaibaa
open Go.RowKit

/-- Gates as cells. -/
def flatG : List Gt → List Value
  | [] => []
  | t :: l => cellsG t ++ flatG l
theorem length_flatG : ∀ l, (flatG l).length = l.length * 3
  | [] => rfl
  | t :: l => by simp [flatG, cellsG, length_flatG l]; omega
theorem flatG_append : ∀ a b, flatG (a ++ b) = flatG a ++ flatG b
  | [], _ => rfl
  | t :: a, b => by simp [flatG, flatG_append a b]
theorem flatG_at : ∀ {l : List Gt} {i : Nat} {t : Gt} (j : Nat) (v : Value), l[i]? = some t → (cellsG t)[j]? = some v → (flatG l)[i * 3 + j]? = some v
  | [], i, t, j, v, h, _ => by simp at h
  | q :: l, 0, t, j, v, h, hj => by
    have : q = t := by simpa using h
    subst this
    have hlt : j < (cellsG q).length := (List.getElem?_eq_some_iff.1 hj).1
    rw [flatG, Nat.zero_mul, Nat.zero_add, List.getElem?_append_left hlt]; exact hj
  | q :: l, i + 1, t, j, v, h, hj => by
    rw [flatG, List.getElem?_append_right (by simp [cellsG]; omega), show (i + 1) * 3 + j - (cellsG q).length = i * 3 + j by simp [cellsG]; omega]
    exact flatG_at j v (by simpa using h) hj
theorem gateInfo' : ((Try.prog.info? 41).map fun i => (i.zero, i.size, i.bytes)) = some (some (.agg #[.int .i64 0, .int .i64 0, .int .i64 0]), 3, 24) := by kernel_rfl
theorem gateInfo : ∃ i, Try.prog.info? 41 = some i ∧ i.zero = some (.agg #[.int .i64 0, .int .i64 0, .int .i64 0]) ∧ i.size = 3 ∧ i.bytes = 24 := by
  obtain ⟨i, hi, h⟩ := Option.map_eq_some_iff.1 gateInfo'
  simp only [Prod.mk.injEq] at h
  exact ⟨i, hi, h.1, h.2.1, h.2.2⟩

section
variable {w w' : World} {B : Nat} {e : TypeId} {size : Nat} {v : Value} {n : Nat} {cs : List Value}
theorem own_lt (h : w.ownsRow B e size v n cs) {k : Nat} (hk : v.ownBlock = some k) : B ≤ k ∧ k < w.heap.size := by
  rcases h.2 with ⟨rfl, _⟩ | ⟨g, cap, cur, rfl, hb, hg, _⟩
  · cases hk
  · have : g = k := by simpa [Value.ownBlock] using hk
    subst this
    refine ⟨hb, ?_⟩
    rcases Nat.lt_or_ge g w.heap.size with hlt | hge
    · exact hlt
    · rw [Array.getElem?_eq_none hge] at hg; cases hg
end
/-- A row of gates of the call's own, behind W0: what W0 had is as it was. -/
def GrowsG (W0 : World) (g n c : Nat) (zs : List Gt) (W : World) : Prop := Below W0.heap.size W0 W ∧ W.ownsRow W0.heap.size 41 3 (.slice (some ⟨g, 0, none⟩) n c) n (flatG zs)
section
variable {W0 W X : World} {g n c : Nat} {zs : List Gt}
theorem GrowsG.alloc (h : GrowsG W0 g n c zs W) (o : Obj) : GrowsG W0 g n c zs (W.alloc o) := ⟨h.1.alloc h.1.size o, h.2.alloc o⟩
theorem GrowsG.row (h : GrowsG W0 g n c zs W) : GRow W g c zs := by
  have hlen := h.2.1
  rw [length_flatG] at hlen
  have hn : n = zs.length := by omega
  rcases h.2.2 with ⟨h', _⟩ | ⟨g', cap, cur, e, hb, hg, hnc, hm, hsz, ht⟩
  · cases h'
  · cases e
    refine ⟨by omega, cur, hg, hsz, fun i x hi j v hj => ?_⟩
    have := flatG_at j v hi hj
    rw [← ht, List.getElem?_take] at this
    split at this
    · rw [← Array.getElem?_toList]; exact this
    · cases this
theorem GrowsG.fresh (h : GrowsG W0 g n c zs W) : W0.heap.size ≤ g ∧ g < W.heap.size := own_lt h.2 (k := g) rfl
/-- One gate more, out of a literal. -/
theorem append_gate (ty : TypeId) {a : Int} {b : Nat} (hG : GrowsG W0 g n c zs X) (h0 : X.cell? ⟨b, 0, none⟩ = some (.int .i64 a)) (h1 : X.cell? ⟨b, 1, none⟩ = some (.int .i64 0)) (h2 : X.cell? ⟨b, 2, none⟩ = some (.int .i64 0)) (hb : n + 1 ≤ 2000) :
    ∃ g' c' w', (Builtin.append_ #[39, 39] ty #[.slice (some ⟨g, 0, none⟩) n c, .slice (some ⟨b, 0, none⟩) 1 1]).run Try.prog X = .ok (.slice (some ⟨g', 0, none⟩) (n + 1) c') w' ∧ GrowsG W0 g' (n + 1) c' (zs ++ [freshG a]) w' := by
  obtain ⟨i, hi, hz, hs, hbt⟩ := gateInfo
  obtain ⟨g', cap, w', hrun, k1, k2, k3, _⟩ := run_append_lies (P := Try.prog) X 39 ty W0.heap.size 41 i _ 3 24 Try.underlying39 hi hz hs hbt rfl (by omega) (.slice (some ⟨g, 0, none⟩) n c) n (flatG zs) hG.2 ⟨b, 0, none⟩ 1 1 (cellsG (freshG a)) rfl (fun j u hu => by
      rw [Addr.add_lit, Nat.zero_add]
      match j, hu with
      | 0, hu => rw [h0]; exact hu
      | 1, hu => rw [h1]; exact hu
      | 2, hu => rw [h2]; exact hu
      | j + 3, hu => simp [cellsG] at hu) (by
      intro u hu
      simp only [cellsG, List.mem_cons, List.not_mem_nil, or_false] at hu
      rcases hu with rfl | rfl | rfl <;> rfl) (by omega) (by unfold maxLen; omega) (by omega) hG.1.size X.heap.size rfl
  refine ⟨g', cap, w', hrun, Below.grown hG.1 k2 hG.1.size (fun k hk => (own_lt hG.2 hk).1), ?_⟩
  rw [flatG_append]
  simpa [flatG] using k1
theorem wpList_append_gate {ops : Array Oper} {rest : List Oper} {o : Oper} {act : Act} {Q : Exit → Act → World → Prop} (hgd : o.guard = none) (s x : Operand)
    (hop : o.op = .call { callee := .builtin .append, args := #[s, x], argTypes := #[39, 39] })
    (W0 : World) (g n c : Nat) (zs : List Gt) (a : Int) (b N : Nat) (hs : act.eval s = .slice (some ⟨g, 0, none⟩) n c) (hx : act.eval x = .slice (some ⟨b, 0, none⟩) 1 1)
    (hG : GrowsG W0 g n c zs X) (h0 : X.cell? ⟨b, 0, none⟩ = some (.int .i64 a)) (h1 : X.cell? ⟨b, 1, none⟩ = some (.int .i64 0)) (h2 : X.cell? ⟨b, 2, none⟩ = some (.int .i64 0)) (hN : n + 1 = N) (hb : N ≤ 2000)
    (h : ∀ g' c' w', GrowsG W0 g' N c' (zs ++ [freshG a]) w' → wpList Try.prog ops Q rest (act.put o.dst (.slice (some ⟨g', 0, none⟩) N c')) w') : wpList Try.prog ops Q (o :: rest) act X := by
  subst hN
  obtain ⟨g', c', w', hrun, hl⟩ := append_gate o.type hG h0 h1 h2 hb
  exact Lib.wpList_append_run X hgd s x 39 39 hop _ _ hs hx _ _ hrun (h g' c' w' hl)
end

/-- Distances, each as it may be. -/
def Dist (l : List Int) : Prop := ∀ x ∈ l, 1 ≤ x ∧ x ≤ 1048576
/-- A guard of the distances l, or none. -/
structure News (l : List Int) (w : World) (e : Ending) (w' : World) : Prop where
  below : Below w.heap.size w w'
  yes : Dist l → 1 ≤ l.length → l.length ≤ 16 → ∃ p g, e = .returned (.tuple #[.pointer (some ⟨p, 0, none⟩), .int .i64 0]) ∧ Grd w' p g 0 (l.map freshG) ∧ w.heap.size ≤ p ∧ w.heap.size ≤ g
  no : ¬ (Dist l ∧ 1 ≤ l.length ∧ l.length ≤ 16) → e = .returned (.tuple #[.pointer none, .int .i64 1])
def NewRel (l : List Int) (w : World) (t i : Value) (W : World) : Prop := ∃ (k g c : Nat) (X : World), k ≤ l.length ∧ i = .int .i64 (k : Int) ∧ t = .slice (some ⟨g, 0, none⟩) k c ∧ X = W ∧ GrowsG w g k c ((l.take k).map freshG) X ∧ Dist (l.take k)
theorem grd_new {l : List Int} {w X : World} {g c : Nat} (h : GrowsG w g l.length c (l.map freshG) X) (hd : Dist l) (h1 : 1 ≤ l.length) (h2 : l.length ≤ 16) :
    Grd (X.alloc (.cells #[.slice (some ⟨g, 0, none⟩) l.length c] 43)) X.heap.size g 0 (l.map freshG) := by
  have hg := h.fresh
  refine ⟨⟨c, by rw [List.length_map]; exact Lies.made _ _ _, (h.alloc _).row⟩, by omega, by simpa using h1, by simpa using h2, fun x hx => ?_⟩
  obtain ⟨a, ha, rfl⟩ := List.mem_map.1 hx
  exact .fresh (hd a ha).1 (hd a ha).2

set_option maxRecDepth 100000 in
set_option maxHeartbeats 1000000 in
theorem newAny {a : Option Addr} {cap : Nat} {l : List Int} {w : World} (hm : l.length ≤ maxLen) (h : Ints w a cap l) : Calls Try.prog 9 #[.slice a l.length cap] w (News l w) := by
  have HI := Lib.hid h
  unfold maxLen at hm
  clear h
  by_cases hlen : l.length < 1 ∨ 16 < l.length
  · have htwo : decide ((l.length : Int) < 1) = true ∨ (decide ((l.length : Int) < 1) = false ∧ decide ((16 : Int) < (l.length : Int)) = true) := by
      by_cases h1 : l.length < 1
      · exact .inl (decide_eq_true (by omega))
      · exact .inr ⟨decide_eq_false (by omega), decide_eq_true (by omega)⟩
    have HN : Hid (News l w (.returned (.tuple #[.pointer none, .int .i64 1])) w) := Lib.hid ⟨Below.refl _ _, fun _ h1 h2 => by omega, fun _ => rfl⟩
    clear hlen
    rcases htwo with t1 | ⟨t1, t2⟩
    all_goals
      go_enter Try.func9, Try.ntmps9
      go_wp2
      go_ret2
      exact HN.out
  · have t1 : decide ((l.length : Int) < 1) = false := decide_eq_false (by omega)
    have t2 : decide ((16 : Int) < (l.length : Int)) = false := decide_eq_false (by omega)
    have l1 : 1 ≤ l.length := by omega
    have l2 : l.length ≤ 16 := by omega
    clear hlen
    obtain ⟨i0, hi0, hz0, hs0, hb0⟩ := gateInfo
    obtain ⟨w1, hmk, hown, hgr⟩ := run_make_own (P := Try.prog) w w.heap.size 39 41 i0 _ 3 Try.underlying39 hi0 hz0 hs0 .i64 .i64 l.length (by rw [hb0]; omega) (by unfold maxLen; omega) (Nat.le_refl _)
    have HG0 : Hid (GrowsG w w.heap.size 0 l.length [] w1) := Lib.hid ⟨Below.grown (Below.refl _ _) hgr (Nat.le_refl _) (fun k hk => by cases hk), hown⟩
    clear hi0 hz0 hs0 hb0 hown hgr
    generalize w.heap.size = g0 at HG0 hmk
    go_enter Try.func9, Try.ntmps9
    go_wp2
    go_loopw [4, 20] (fun t i W => NewRel l w t i W) (fun _ i _ => l.length - (intOf i).toNat)
    case atStart => exact ⟨0, g0, l.length, _, by omega, rfl, rfl, rfl, by simpa using HG0.out, fun x hx => by simp at hx⟩
    case round =>
      obtain ⟨k, g, c, X, hk, rfl, rfl, rfl, hg, hd⟩ := hrel
      have HG := Lib.hid hg
      have HD := Lib.hid hd
      clear hg hd HG0
      by_cases hlt : k < l.length
      · have t3 : decide ((k : Int) < (l.length : Int)) = true := by simp; omega
        have hx : l[k]? = some l[k] := List.getElem?_eq_getElem hlt
        have HT := Lib.hid (List.take_succ_eq_append_getElem hlt)
        have HM := Lib.hid (List.getElem_mem hlt)
        obtain ⟨b, off, rfl, hbl, hc⟩ := HI.out.at_ hx
        have x0 := hc _ HG.out.1
        have i1 : (0 : Int) ≤ (k : Int) := by omega
        have i2 : (k : Int) < (l.length : Int) := by omega
        clear hx hc
        generalize l[k] = x at x0 HT HM
        by_cases hr : 1 ≤ x ∧ x ≤ 1048576
        · have t4 : decide (x < 1) = false := decide_eq_false (by omega)
          have t5 : decide (1048576 < x) = false := decide_eq_false (by omega)
          have HR := Lib.hid hr
          clear hr
          have HL := Lib.hid (Lies.made X 41 #[.int .i64 x, .int .i64 0, .int .i64 0])
          have HX := Lib.hid (HG.out.alloc (.cells #[.int .i64 x, .int .i64 0, .int .i64 0] 41))
          go_wp2_with (
            at_builtin
            refine wpList_append_gate rfl (.tmp 30) (.tmp 33) rfl w g k c _ x X.heap.size (k + 1) rfl rfl HX.out (HL.out.cell 0) (HL.out.cell 1) (HL.out.cell 2) rfl (by omega) ?_
            intro g2 c2 w2 hp2
            have HP := Lib.hid hp2
            clear hp2)
          go_roundw
          case rel => exact ⟨k + 1, g2, c2, _, by omega, by go_num, rfl, rfl, by rw [HT.out, List.map_append]; exact HP.out, by
            rw [HT.out]
            intro y hy
            rcases List.mem_append.1 hy with hy | hy
            · exact HD.out y hy
            · have : y = x := by simpa using hy
              subst this
              exact HR.out⟩
          case measure => simp [intOf]; omega
        · have htwo : decide (x < 1) = true ∨ (decide (x < 1) = false ∧ decide (1048576 < x) = true) := by
            by_cases h1 : x < 1
            · exact .inl (decide_eq_true h1)
            · exact .inr ⟨decide_eq_false h1, decide_eq_true (by omega)⟩
          have HN : Hid (News l w (.returned (.tuple #[.pointer none, .int .i64 1])) X) := Lib.hid ⟨HG.out.1, fun h' _ _ => absurd (h' x HM.out) hr, fun _ => rfl⟩
          clear hr
          rcases htwo with t4 | ⟨t4, t5⟩
          all_goals
            go_wp2
            go_ret2
            exact HN.out
      · have t3 : decide ((k : Int) < (l.length : Int)) = false := by simp; omega
        have t3' : decide (k < l.length) = false := by simp; omega
        obtain rfl : k = l.length := by omega
        rw [List.take_length] at HG HD
        have HQ := Lib.hid (grd_new HG.out HD.out l1 l2)
        have HB : Hid (Below w.heap.size w (X.alloc (.cells #[.slice (some ⟨g, 0, none⟩) l.length c] 43))) := Lib.hid (HG.out.1.alloc HG.out.1.size _)
        have HF := Lib.hid HG.out.fresh
        have HZ := Lib.hid HG.out.1.size
        go_wp2
        go_ret2
        exact ⟨HB.out, fun _ _ _ => ⟨_, _, rfl, HQ.out, HZ.out, HF.out.1⟩, fun h => absurd ⟨HD.out, l1, l2⟩ h⟩
end Go.Proofs.Ytllihehkceaibaa
