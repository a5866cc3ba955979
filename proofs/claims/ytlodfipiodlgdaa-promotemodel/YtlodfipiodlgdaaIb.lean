/- A row laid into a slice ahead of others, where there is room: in place. -/
import Derived.Test.YtlodfipiodlgdaaIa
namespace Go.Proofs.Ytlodfipiodlgdaa
open Go.RowKit

set_option maxRecDepth 100000 in
set_option maxHeartbeats 2000000 in
theorem insert_shift {B n i cap g : Nat} {x y : Value} {cs : List Value} {cur : Array Value} {vb : Nat} {w : World} (hB : B ≤ g) (hc : cap ≤ maxLen) (hn : n ≤ 2000) (hroom : n + 1 ≤ cap) (hi : i < n)
    (hg : Lies w g 60 cur) (hsz : cur.size = cap * 2) (ht : cur.toList.take (n * 2) = cs) (hv : Lies w vb 60 #[x, y]) (hne : vb ≠ g)
    (h1 : ∀ u ∈ cs, u.oneCell' = true) (hx : x.oneCell' = true) (hy : y.oneCell' = true) :
    Calls Try.prog 25 #[.slice (some ⟨g, 0, none⟩) n cap, .int .i64 (i : Int), .slice (some ⟨vb, 0, none⟩) 1 1] w (Inserts B (some g) (n + 1) (cs.take (i * 2) ++ [x, y] ++ cs.drop (i * 2)) w) := by
  have hlen : cs.length = n * 2 := by rw [← ht, List.length_take, Array.length_toList, hsz]; omega
  have hdl : (cs.drop (i * 2)).length = (n - i) * 2 := by rw [List.length_drop, hlen]; omega
  obtain ⟨mid, hmid, hown⟩ := Inserts.shift (x := x) (y := y) (i := i) hB hc hroom (by omega) hg hsz ht
  have hov : ∀ off lb cb, (callFunc 31 #[.slice (some ⟨vb, 0, none⟩) 1 1, .slice (some ⟨g, off, none⟩) lb cb]).run Try.prog w = .ok (.value (.bool false)) w := fun off lb cb => apart hv hg rfl (by omega) hne
  have hcp1 : ∀ (W : World), W.heap = w.heap → ∀ ty dc sc, (Builtin.copy_ #[52, 52] ty #[.slice (some ⟨g, (i + 1) * 2, none⟩) (n - i) dc, .slice (some ⟨g, i * 2, none⟩) (n + 1 - i) sc]).run Try.prog W = .ok (goInt ((n - i : Nat) : Int)) (W.setRow g mid) := fun W hW ty dc sc => by
    have hgW : Lies W g 60 cur := by unfold Lies; rw [hW]; exact hg
    have := run_copy_rows W ty g ((i + 1) * 2) (n - i) dc ⟨g, i * 2, none⟩ (n + 1 - i) sc (n - i) cur (cs.drop (i * 2)) hgW (by simp only [Nat.min_def]; split <;> omega) hdl
      (fun j v hj => by
        rw [Addr.add_lit, hgW.cell]
        rw [List.getElem?_drop, ← ht, List.getElem?_take] at hj
        split at hj
        · rw [← Array.getElem?_toList]; exact hj
        · cases hj)
      (by rw [hdl, hsz]; omega) (fun v hv => h1 v (List.mem_of_mem_drop hv))
    rw [this, hmid]
  have hms : mid.size = cap * 2 := by
    rw [hmid]
    simp only [List.size_toArray, List.length_append, List.length_take, List.length_drop, Array.length_toList, hsz, hlen]
    omega
  clear hmid
  have h1xy : ∀ u ∈ [x, y], u.oneCell' = true := fun u hu => by
    rcases List.mem_cons.1 hu with rfl | hu
    · exact hx
    · rw [List.mem_singleton.1 hu]; exact hy
  have hcp2 : ∀ (W W' : World), W'.heap = w.heap → W = W'.setRow g mid → ∀ ty dc, (Builtin.copy_ #[52, 52] ty #[.slice (some ⟨g, i * 2, none⟩) (n + 1 - i) dc, .slice (some ⟨vb, 0, none⟩) 1 1]).run Try.prog W = .ok (goInt ((1 : Nat) : Int)) (W.setRow g (mid.toList.take (i * 2) ++ [x, y] ++ mid.toList.drop (i * 2 + 2)).toArray) := fun W W' hW' hW ty dc => by
    have hgW : Lies W g 60 mid := by unfold Lies; rw [hW]; exact setRow_heap W' g cur mid 60 (0, 0) (by rw [hW']; exact hg)
    have hvW : Lies W vb 60 #[x, y] := by unfold Lies; rw [hW, setRow_other W' g vb mid hne, hW']; exact hv
    exact run_copy_rows W ty g (i * 2) (n + 1 - i) dc ⟨vb, 0, none⟩ 1 1 1 mid [x, y] hgW (by simp only [Nat.min_def]; split <;> omega) rfl
      (fun j v hj => by rw [Addr.add_lit, hvW.cell, Nat.zero_add]; rw [← Array.getElem?_toList]; exact hj)
      (by rw [hms]; simp; omega) h1xy
  have HOWN := Lib.hid hown
  clear hown hsz ht h1
  have z1 : ¬ ((i : Int) = (n : Int)) := by omega
  have z2 : ¬ (cap = i) := by omega
  have z3 : ¬ (cap = i + 1) := by omega
  have z4 : decide ((cap : Int) < (n : Int) + 1) = false := by simp; omega
  have z5 : IntKind.i64.wrap ((i : Int) + 1) = (i : Int) + 1 := by rw [IntKind.wrap_i64]; omega
  have z6 : (0 : Int) ≤ (i : Int) + 1 := by omega
  have z7 : ((i : Int) + 1).toNat = i + 1 := by omega
  have z8 : (i : Int) ≤ (n : Int) := by omega
  have z9 : (i : Int) ≤ (n : Int) + 1 := by omega
  have z10 : i ≤ n := by omega
  go_enter Try.func25, Try.ntmps25
  go_wp2_with (simp only [hov])
  go_region_law (refine step_copy_runI rfl (.tmp 73) (.tmp 76) 52 52 rfl (.slice (some ⟨g, (i + 1) * 2, none⟩) (n - i) (cap - (i + 1))) (.slice (some ⟨g, i * 2, none⟩) (n + 1 - i) (cap - i)) (by simp [Act.eval, Act.put]) (by simp [Act.eval, Act.put]) (hcp1 w.drew rfl 3 _ _) ?_)
  go_wp2
  rw [hcp2 (w.drew.setRow g mid) w.drew rfl rfl 3 (cap - i)]
  go_wp2
  go_ret
  refine ⟨g, cap, rfl, ?_, ⟨rfl, rfl, rfl, by simp [World.setRow], fun k hk hk' => ?_⟩, .inl rfl⟩
  · have h := HOWN.out
    simp only [List.append_assoc, List.cons_append, List.nil_append] at h ⊢
    exact h
  · have hkg : k ≠ g := fun e => hk' (by rw [e])
    rw [setRow_other _ g k _ hkg, setRow_other _ g k _ hkg]
    rfl
end Go.Proofs.Ytlodfipiodlgdaa
