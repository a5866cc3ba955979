/- A row laid into a slice ahead of others, where there is no room: in a new row. -/
import Derived.Test.YtlodfipiodlgdaaIb
import Derived.Lib.AppendZerosOnto
namespace Go.Proofs.Ytlodfipiodlgdaa
open Go.RowKit

/-- What a new row holds behind the two copies. -/
theorem grown_row {A Z D : List Value} {x y : Value} {i n : Nat} {cs : List Value} (hA : A = cs.take (i * 2)) (hlen : cs.length = n * 2) (hi : i < n) :
    let row := A ++ Z ++ D
    let mid := row.take (i * 2) ++ [x, y] ++ row.drop (i * 2 + 2)
    (mid.take ((i + 1) * 2) ++ cs.drop (i * 2) ++ mid.drop ((i + 1) * 2 + (cs.drop (i * 2)).length)).take ((n + 1) * 2) = cs.take (i * 2) ++ [x, y] ++ cs.drop (i * 2) := by
  intro row mid
  have hAl : A.length = i * 2 := by rw [hA, List.length_take, hlen]; omega
  have h1 : row.take (i * 2) = A := by
    show ((A ++ Z) ++ D).take (i * 2) = A
    rw [List.append_assoc]; exact List.take_left' hAl
  have h2 : mid.take ((i + 1) * 2) = A ++ [x, y] := by
    show (row.take (i * 2) ++ [x, y] ++ row.drop (i * 2 + 2)).take ((i + 1) * 2) = _
    rw [h1]; exact List.take_left' (by simp [hAl]; omega)
  rw [h2, hA]
  exact List.take_left' (by simp [hlen]; omega)

set_option maxRecDepth 100000 in
set_option maxHeartbeats 2000000 in
theorem insert_grow {B n i cap g : Nat} {x y : Value} {cs : List Value} {cur : Array Value} {vb : Nat} {w : World} (hB : B ≤ w.heap.size) (hn : n ≤ 2000) (hcn : n ≤ cap) (hroom : cap < n + 1) (hi : i < n)
    (hg : Lies w g 60 cur) (hsz : cur.size = cap * 2) (ht : cur.toList.take (n * 2) = cs) (hv : Lies w vb 60 #[x, y])
    (h1 : ∀ u ∈ cs, u.oneCell' = true) (hx : x.oneCell' = true) (hy : y.oneCell' = true) :
    Calls Try.prog 25 #[.slice (some ⟨g, 0, none⟩) n cap, .int .i64 (i : Int), .slice (some ⟨vb, 0, none⟩) 1 1] w (Inserts B (some g) (n + 1) (cs.take (i * 2) ++ [x, y] ++ cs.drop (i * 2)) w) := by
  obtain rfl : cap = n := by omega
  obtain ⟨i0, hi0, hz0, hs0, hb0⟩ := rowInfo
  have hlen : cs.length = cap * 2 := by rw [← ht, List.length_take, Array.length_toList, hsz]; omega
  have hdl : (cs.drop (i * 2)).length = (cap - i) * 2 := by rw [List.length_drop, hlen]; omega
  have hcell : ∀ j v, cs[j]? = some v → w.cell? ⟨g, j, none⟩ = some v := fun j v hj => by
    rw [hg.cell]
    rw [← ht, List.getElem?_take] at hj
    split at hj
    · rw [← Array.getElem?_toList]; exact hj
    · cases hj
  have hold : (Builtin.firstCells i0.size i (.slice (some ⟨g, 0, none⟩) i cap)).run Try.prog w.drew = .ok (cs.take (i * 2)).toArray w.drew := by
    rw [hs0]
    refine run_firstCells_some w.drew 2 i ⟨g, 0, none⟩ i cap (cs.take (i * 2)) (by rw [List.length_take, hlen]; omega) (fun j v hj => ?_)
    rw [List.getElem?_take] at hj
    split at hj
    · rw [Addr.add_lit, Nat.zero_add]; exact hcell j v hj
    · cases hj
  have hfit : Builtin.nextslicecap (cap + 1) cap * 16 ≤ 281474976710656 := growslice_fits (by omega) (by omega)
  have hik : i + (cap + 1 - i) = cap + 1 := by omega
  have hrz := fun ty => Lib.run_append_grow_zeros (P := Try.prog) w 52 3 ty 60 i0 _ .i64 .i64 Try.underlying52 Try.underlying3 hi0 hz0 (some ⟨g, 0, none⟩) i cap (cs.take (i * 2)) hold (cap + 1 - i) (by omega) (by omega) (by omega) (by omega) (by rw [hb0]; omega) (by rw [hb0, hik]; exact hfit)
  rw [hik] at hrz
  have hkk : ((cap + 1 - i : Nat) : Int) = (cap : Int) + 1 - (i : Int) := by omega
  rw [hkk] at hrz
  obtain ⟨G, hG⟩ : ∃ G, G = grownCap w (cap + 1) cap 60 := ⟨_, rfl⟩
  have hGn : cap + 1 ≤ G := by rw [hG]; exact grownCap_ge w _ _ _
  have hGm : G ≤ maxLen := by rw [hG]; exact grownCap_le_maxLen w (cap + 1) cap 60 (by unfold maxLen; omega)
  obtain ⟨row, hrow⟩ : ∃ row : Array Value, row = (cs.take (i * 2)).toArray ++ Builtin.zeroCells (Value.agg #[.int .i64 0, .int .i64 0]).cells (cap + 1 - i) ++ Builtin.zeroCells (Value.agg #[.int .i64 0, .int .i64 0]).cells (G - (cap + 1)) := ⟨_, rfl⟩
  rw [← hG, ← hrow] at hrz
  have hrs : row.size = G * 2 := by
    rw [hrow]
    simp only [Array.size_append, List.size_toArray, size_zeroCells, List.length_take, hlen]
    simp [Value.cells]
    omega
  have hNg : g ≠ w.heap.size := by have := hg.lt; omega
  have hNv : vb ≠ w.heap.size := by have := hv.lt; omega
  have h1xy : ∀ u ∈ [x, y], u.oneCell' = true := fun u hu => by
    rcases List.mem_cons.1 hu with rfl | hu
    · exact hx
    · rw [List.mem_singleton.1 hu]; exact hy
  have a1 : Lies (w.alloc (.cells row 60)) w.heap.size 60 row := Lies.made w 60 row
  have a2 : Lies (w.alloc (.cells row 60)) vb 60 #[x, y] := hv.alloc _
  have a3 : Lies (w.alloc (.cells row 60)) g 60 cur := hg.alloc _
  obtain ⟨mid, hmid⟩ : ∃ mid : Array Value, mid = (row.toList.take (i * 2) ++ [x, y] ++ row.toList.drop (i * 2 + 2)).toArray := ⟨_, rfl⟩
  have hms : mid.size = G * 2 := by
    rw [hmid]
    simp only [List.size_toArray, List.length_append, List.length_take, List.length_drop, Array.length_toList, hrs]
    simp; omega
  have hcpA : ∀ (W : World), W.heap = (w.alloc (.cells row 60)).heap → ∀ ty dc, (Builtin.copy_ #[52, 52] ty #[.slice (some ⟨w.heap.size, i * 2, none⟩) (cap + 1 - i) dc, .slice (some ⟨vb, 0, none⟩) 1 1]).run Try.prog W = .ok (goInt ((1 : Nat) : Int)) (W.setRow w.heap.size mid) := fun W hW ty dc => by
    have b1 : Lies W w.heap.size 60 row := by unfold Lies; rw [hW]; exact a1
    have b2 : Lies W vb 60 #[x, y] := by unfold Lies; rw [hW]; exact a2
    rw [hmid]
    exact run_copy_rows W ty w.heap.size (i * 2) (cap + 1 - i) dc ⟨vb, 0, none⟩ 1 1 1 row [x, y] b1 (by simp only [Nat.min_def]; split <;> omega) rfl
      (fun j v hj => by rw [Addr.add_lit, b2.cell, Nat.zero_add]; rw [← Array.getElem?_toList]; exact hj) (by rw [hrs]; simp; omega) h1xy
  obtain ⟨fin, hfin⟩ : ∃ fin : Array Value, fin = (mid.toList.take ((i + 1) * 2) ++ cs.drop (i * 2) ++ mid.toList.drop ((i + 1) * 2 + (cs.drop (i * 2)).length)).toArray := ⟨_, rfl⟩
  have hcpB : ∀ (W : World), W.heap = ((w.alloc (.cells row 60)).setRow w.heap.size mid).heap → ∀ ty dc sc, (Builtin.copy_ #[52, 52] ty #[.slice (some ⟨w.heap.size, (i + 1) * 2, none⟩) (cap - i) dc, .slice (some ⟨g, i * 2, none⟩) (cap - i) sc]).run Try.prog W = .ok (goInt ((cap - i : Nat) : Int)) (W.setRow w.heap.size fin) := fun W hW ty dc sc => by
    have b1 : Lies W w.heap.size 60 mid := by unfold Lies; rw [hW]; exact setRow_heap _ _ row mid 60 (0, 0) a1
    have b3 : Lies W g 60 cur := by unfold Lies; rw [hW, setRow_other _ _ g mid hNg]; exact a3
    rw [hfin]
    exact run_copy_rows W ty w.heap.size ((i + 1) * 2) (cap - i) dc ⟨g, i * 2, none⟩ (cap - i) sc (cap - i) mid (cs.drop (i * 2)) b1 (by simp only [Nat.min_def]; split <;> omega) hdl
      (fun j v hj => by
        rw [Addr.add_lit, b3.cell]
        rw [List.getElem?_drop] at hj
        have := hcell _ v hj
        rw [hg.cell] at this
        exact this)
      (by rw [hdl, hms]; omega) (fun v hv => h1 v (List.mem_of_mem_drop hv))
  have hown : (((w.alloc (.cells row 60)).setRow w.heap.size mid).setRow w.heap.size fin).ownsRow B 60 2 (.slice (some ⟨w.heap.size, 0, none⟩) (cap + 1) G) (cap + 1) (cs.take (i * 2) ++ [x, y] ++ cs.drop (i * 2)) := by
    refine ⟨by simp [hlen]; omega, .inr ⟨w.heap.size, G, fin, rfl, hB, setRow_heap _ _ _ _ 60 (0, 0) (setRow_heap _ _ row _ 60 (0, 0) a1), hGn, hGm, ?_, ?_⟩⟩
    · rw [hfin]
      simp only [List.size_toArray, List.length_append, List.length_take, List.length_drop, Array.length_toList, hms, hlen]
      omega
    · rw [hfin, hmid, hrow]
      have := grown_row (A := cs.take (i * 2)) (Z := (Builtin.zeroCells (Value.agg #[.int .i64 0, .int .i64 0]).cells (cap + 1 - i)).toList) (D := (Builtin.zeroCells (Value.agg #[.int .i64 0, .int .i64 0]).cells (G - (cap + 1))).toList) (x := x) (y := y) rfl hlen hi
      simpa using this
  have HOWN := Lib.hid hown
  clear hown hfin hmid hrow hG hold hsz ht h1 a1 a2 a3 hi0 hz0 hs0 hb0 hcell hv hg hrs hms hfit
  have z1 : ¬ ((i : Int) = (cap : Int)) := by omega
  have z2 : ¬ (cap = i) := by omega
  have z3 : ¬ (G = i + 1) := by omega
  have z3' : ¬ (G = i) := by omega
  have z5 : IntKind.i64.wrap ((i : Int) + 1) = (i : Int) + 1 := by rw [IntKind.wrap_i64]; omega
  have z6 : (0 : Int) ≤ (i : Int) + 1 := by omega
  have z7 : ((i : Int) + 1).toNat = i + 1 := by omega
  have z8 : (i : Int) ≤ (cap : Int) := by omega
  have z9 : (i : Int) ≤ (cap : Int) + 1 := by omega
  have z10 : i ≤ cap := by omega
  go_enter Try.func25, Try.ntmps25
  go_wp2_with (at_builtin; refine Lib.wpList_append_run _ rfl _ _ 52 3 rfl _ _ rfl rfl _ _ (hrz _) ?_)
  rw [hcpA (w.alloc (.cells row 60)).drew rfl 3 (G - i)]
  go_wp2
  go_region_law (refine step_copy_runI rfl (.tmp 50) (.tmp 53) 52 52 rfl (.slice (some ⟨w.heap.size, (i + 1) * 2, none⟩) (cap - i) (G - (i + 1))) (.slice (some ⟨g, i * 2, none⟩) (cap - i) (cap - i)) (by simp [Act.eval, Act.put]) (by simp [Act.eval, Act.put]) (hcpB ((w.alloc (.cells row 60)).drew.setRow w.heap.size mid).drew rfl 3 _ _) ?_)
  go_wp2
  go_ret
  refine ⟨w.heap.size, G, rfl, HOWN.out, ⟨rfl, rfl, rfl, by simp [World.setRow], fun k hk _ => ?_⟩, .inr (Nat.le_refl _)⟩
  rw [setRow_other _ _ k _ (by omega)]
  show (((w.alloc (.cells row 60)).drew.setRow w.heap.size mid)).heap[k]? = _
  rw [setRow_other _ _ k _ (by omega)]
  exact Below.heap_alloc w _ k hk

theorem insert {B n i : Nat} {v x y : Value} {cs : List Value} {vb : Nat} {w : World} (hB : B ≤ w.heap.size) (hn : n ≤ 2000) (hi : i ≤ n) (ho : w.ownsRow B 60 2 v n cs) (hv : Lies w vb 60 #[x, y]) (hne : v.ownBlock ≠ some vb)
    (h1 : ∀ u ∈ cs, u.oneCell' = true) (hx : x.oneCell' = true) (hy : y.oneCell' = true) :
    Calls Try.prog 25 #[v, .int .i64 (i : Int), .slice (some ⟨vb, 0, none⟩) 1 1] w (Inserts B v.ownBlock (n + 1) (cs.take (i * 2) ++ [x, y] ++ cs.drop (i * 2)) w) := by
  by_cases hin : i = n
  · subst hin
    have hl := ho.1
    rw [List.take_of_length_le (by omega), List.drop_of_length_le (by omega), List.append_nil]
    exact insert_end hB hn ho hv hx hy
  · rcases ho.2 with ⟨rfl, rfl⟩ | ⟨g, cap, cur, rfl, hbg, hg, hnc, hc, hsz, ht⟩
    · omega
    · by_cases hroom : n + 1 ≤ cap
      · exact insert_shift hbg hc hn hroom (by omega) hg hsz ht hv (fun e => hne (by rw [e]; rfl)) h1 hx hy
      · exact insert_grow hB hn hnc (by omega) (by omega) hg hsz ht hv h1 hx hy
end Go.Proofs.Ytlodfipiodlgdaa
