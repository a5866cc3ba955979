/- Entries let go out of a row: slices.Delete, in place. -/
import Derived.Test.YtlodfipiodlgdaaIc
import Derived.Lib.SliceRun
import Derived.Deep.RegionLaw
namespace Go.Proofs.Ytlodfipiodlgdaa
open Go.RowKit

theorem zeros_one {n : Nat} : ∀ u ∈ (Builtin.zeroCells (aggQ (0, 0)).cells n).toList, u.oneCell' = true := by
  intro u hu
  simp only [Builtin.zeroCells, Array.toList_map, List.mem_map] at hu
  obtain ⟨i, _, rfl⟩ := hu
  have h2 : i % (aggQ (0, 0)).cells.size < 2 := Nat.mod_lt _ (by decide)
  generalize i % (aggQ (0, 0)).cells.size = k at h2
  match k, h2 with
  | 0, _ => rfl
  | 1, _ => rfl
theorem zeros_len (n : Nat) : (Builtin.zeroCells (aggQ (0, 0)).cells n).toList.length = n * 2 := by rw [Array.length_toList, size_zeroCells]; rfl
/-- Entries of a row are cleared. -/
theorem run_clear_rows (w : World) (ty : TypeId) (g o n c : Nat) (cur : Array Value) (hg : Lies w g 60 cur) (hn : 0 < n) (hfit : o + n * 2 ≤ cur.size) :
    (Builtin.clear_ #[52] ty #[.slice (some ⟨g, o, none⟩) n c]).run Try.prog w = .ok (.tuple #[]) (w.setCells g o (Builtin.zeroCells (aggQ (0, 0)).cells n).toList) := by
  have hst := run_storeCells_cells (P := Try.prog) g o (Builtin.zeroCells (aggQ (0, 0)).cells n).toList 0 w (fun j hj => by
    rw [zeros_len] at hj
    rw [Nat.add_zero, hg.cell, Array.getElem?_eq_getElem (by omega)]; rfl) (fun j _ => hg.thawed _) zeros_one
  simp only [Nat.add_zero] at hst
  obtain ⟨m, rfl⟩ : ∃ m, n = m + 1 := ⟨n - 1, by omega⟩
  simp only [aggQ] at hst ⊢
  have hv : ∀ w, (zeroValue 60).run Try.prog w = .ok (.agg #[.int .i64 0, .int .i64 0]) w := Try.zeroValue60
  simp [Builtin.clear_, run_underlying Try.underlying52, hv, hst]

/-- The row behind a delete. -/
def Deletes (B : Nat) (g0 : Option Nat) (n : Nat) (cells : List Value) (w : World) (e : Ending) (w' : World) : Prop :=
  ∃ v, e = .returned v ∧ v.ownBlock = g0 ∧ w'.ownsRow B 60 2 v n cells ∧ Turns (fun k => g0 = some k) w w'

set_option maxHeartbeats 1000000 in
theorem delete_none {a : Option Addr} {n c i : Nat} {w : World} (hi : i ≤ n) (hc : n ≤ c) : Calls Try.prog 26 #[.slice a n c, .int .i64 (i : Int), .int .i64 (i : Int)] w (Says (.slice a n c) w) := by
  go_enter Try.func26, Try.ntmps26
  go_wp2
  all_goals (go_ret; exact ⟨rfl, rfl⟩)

theorem row_deleted {B n i j cap g : Nat} {cs : List Value} {cur : Array Value} {w : World} (hB : B ≤ g) (hc : cap ≤ maxLen) (hn : n ≤ cap) (hij : i < j) (hj : j ≤ n)
    (hg : Lies w g 60 cur) (hsz : cur.size = cap * 2) (ht : cur.toList.take (n * 2) = cs) :
    (((w.setCells g (0 + i * 2) (cs.drop (j * 2))).setCells g ((i + (n - j)) * 2) (Builtin.zeroCells (aggQ (0, 0)).cells (n - (i + (n - j)))).toList)).ownsRow B 60 2 (.slice (some ⟨g, 0, none⟩) (i + (n - j)) cap) (i + (n - j)) (cs.take (i * 2) ++ cs.drop (j * 2)) ∧
    ∃ c1, Lies (w.setCells g (0 + i * 2) (cs.drop (j * 2))) g 60 c1 ∧ c1.size = cap * 2 := by
  have hlen : cs.length = n * 2 := by rw [← ht, List.length_take, Array.length_toList, hsz]; omega
  have hat : ∀ k, k < n * 2 → cur[k]? = cs[k]? := fun k hk => by rw [← ht, List.getElem?_take, if_pos hk, Array.getElem?_toList]
  obtain ⟨c1, l1, s1, in1, out1⟩ := lies_setCells (cs.drop (j * 2)) (0 + i * 2) _ _ hg
  obtain ⟨c2, l2, s2, in2, out2⟩ := lies_setCells (Builtin.zeroCells (aggQ (0, 0)).cells (n - (i + (n - j)))).toList ((i + (n - j)) * 2) _ _ l1
  refine ⟨⟨by simp [hlen]; omega, .inr ⟨g, cap, c2, rfl, hB, l2, by omega, hc, by rw [s2, s1, hsz], ?_⟩⟩, c1, l1, by rw [s1, hsz]⟩
  refine List.ext_getElem? fun k => ?_
  rw [List.getElem?_take]
  have hdl : (cs.drop (j * 2)).length = (n - j) * 2 := by rw [List.length_drop, hlen]; omega
  split
  · rename_i hk
    rw [Array.getElem?_toList, out2 k (.inl (by omega))]
    by_cases hki : k < i * 2
    · rw [out1 k (.inl (by omega)), hat k (by omega), List.getElem?_append_left (by rw [List.length_take, hlen]; omega), List.getElem?_take, if_pos hki]
    · have hkl : k - i * 2 < (cs.drop (j * 2)).length := by rw [hdl]; omega
      have := in1 (k - i * 2) _ (List.getElem?_eq_getElem hkl) (by rw [hsz]; omega)
      rw [show 0 + i * 2 + (k - i * 2) = k by omega] at this
      rw [this, List.getElem?_append_right (by rw [List.length_take, hlen]; omega), List.length_take, hlen, Nat.min_eq_left (by omega), List.getElem?_eq_getElem hkl]
  · rename_i hk
    rw [List.getElem?_eq_none]
    rw [List.length_append, List.length_take, hlen, hdl]; omega

set_option maxRecDepth 100000 in
set_option maxHeartbeats 2000000 in
theorem delete_some {B n i j cap g : Nat} {cs : List Value} {cur : Array Value} {w : World} (hB : B ≤ g) (hc : cap ≤ maxLen) (hn : n ≤ cap) (hij : i < j) (hj : j ≤ n)
    (hg : Lies w g 60 cur) (hsz : cur.size = cap * 2) (ht : cur.toList.take (n * 2) = cs) (h1 : ∀ u ∈ cs, u.oneCell' = true) :
    Calls Try.prog 26 #[.slice (some ⟨g, 0, none⟩) n cap, .int .i64 (i : Int), .int .i64 (j : Int)] w (Deletes B (some g) (i + (n - j)) (cs.take (i * 2) ++ cs.drop (j * 2)) w) := by
  obtain ⟨i0, hi0, hz0, hs0, hb0⟩ := rowInfo
  have hlen : cs.length = n * 2 := by rw [← ht, List.length_take, Array.length_toList, hsz]; omega
  have hdl : (cs.drop (j * 2)).length = (n - j) * 2 := by rw [List.length_drop, hlen]; omega
  have hgd : Lies w.drew g 60 cur := hg
  obtain ⟨hown, c1, l1, s1⟩ := row_deleted (B := B) hB hc hn hij hj hgd hsz ht
  obtain ⟨news, hnews⟩ : ∃ news, news = cs.drop (j * 2) := ⟨_, rfl⟩
  rw [← hnews] at hown l1 ⊢
  obtain ⟨Z, hZ⟩ : ∃ Z, Z = (Builtin.zeroCells (aggQ (0, 0)).cells (n - (i + (n - j)))).toList := ⟨_, rfl⟩
  rw [← hZ] at hown
  have N1 : Hid (∀ u ∈ news, u.oneCell' = true) := fun u hu => h1 u (List.mem_of_mem_drop (hnews ▸ hu))
  have N2 : Hid (news.length = (n - j) * 2) := by rw [hnews]; exact hdl
  obtain ⟨A, hA, hsrc⟩ : ∃ A : Addr, (if cap = j then some (⟨g, 0, none⟩ : Addr) else some ⟨g, j * 2, none⟩) = some A ∧ Hid (∀ t u, news[t]? = some u → w.drew.cell? (A.add t) = some u) := by
    by_cases h : cap = j
    · refine ⟨⟨g, 0, none⟩, by simp [h], fun t u hu => ?_⟩
      have : news = [] := List.eq_nil_of_length_eq_zero (by rw [N2.out]; omega)
      rw [this] at hu; simp at hu
    · refine ⟨⟨g, j * 2, none⟩, by simp [h], fun t u hu => ?_⟩
      rw [hnews, List.getElem?_drop, ← ht, List.getElem?_take] at hu
      split at hu
      · rw [Addr.add_lit, hgd.cell, ← Array.getElem?_toList]; exact hu
      · cases hu
  have S3 : Hid (∀ t, t < news.length → (w.drew.cell? ⟨g, 0 + i * 2 + t, none⟩).isSome = true ∧ w.drew.frozen? ⟨g, 0 + i * 2 + t, none⟩ = false) := fun t ht => by
    rw [N2.out] at ht
    exact ⟨by rw [hgd.cell, Array.getElem?_eq_getElem (by omega)]; rfl, hgd.thawed _⟩
  obtain ⟨W1, hW1⟩ : ∃ W1, W1 = w.drew.setCells g (0 + i * 2) news := ⟨_, rfl⟩
  rw [← hW1] at l1 hown
  have hcl : ∀ ty c, (Builtin.clear_ #[52] ty #[.slice (some ⟨g, (i + (n - j)) * 2, none⟩) (n - (i + (n - j))) c]).run Try.prog W1 = .ok (.tuple #[]) (W1.setCells g ((i + (n - j)) * 2) Z) := fun ty c => by
    rw [hZ]
    exact run_clear_rows W1 ty g ((i + (n - j)) * 2) _ c c1 l1 (by omega) (by rw [s1]; omega)
  have HT : Hid (Turns (fun k => some g = some k) w (W1.setCells g ((i + (n - j)) * 2) Z)) := by
    rw [hW1]
    exact Lib.hid (turns_setCells (S := fun k => some g = some k) rfl _ _ _ (turns_setCells (S := fun k => some g = some k) rfl _ _ _ ((Turns.refl _ w).drewN 1)))
  have HW := Lib.hid hW1
  have HOWN : Hid (∀ c, c = cap → (W1.setCells g ((i + (n - j)) * 2) Z).ownsRow B 60 2 (.slice (some ⟨g, 0, none⟩) (i + (n - j)) c) (i + (n - j)) (cs.take (i * 2) ++ news)) := fun c hcc => by subst hcc; exact hown
  have hic : i ≤ cap := by omega
  have hjc : j ≤ cap := by omega
  have z1 : ((i : Int) == (j : Int)) = false := by rw [beq_eq_false_iff_ne]; omega
  have z2 : ¬ cap = i + (n - j) := by omega
  unfold maxLen at hc
  clear hZ hW1 hown l1 s1 hg hsz ht hgd hnews hlen hdl h1
  have HRW := Lib.hid hs0
  have HRI := Lib.hid hi0
  clear hs0 hi0 hz0 hb0
  go_enter Try.func26, Try.ntmps26
  go_wp2_with fail
  go_region_law (refine step_append_room rfl (.tmp 22) (.tmp 25) 52 rfl 60 i0 2 Try.underlying52 HRI.out HRW.out g 0 i cap (by simp [Act.eval, Act.put]) A (n - j) (cap - j) news (by simp [Act.eval, Act.put]) N2.out hsrc.out N1.out (by omega) S3.out ?_; rw [← HW.out])
  all_goals
    go_wp2
    go_ret
    exact ⟨_, rfl, rfl, HOWN.out _ (by omega), HT.out⟩
/-- Entries from i up to j go out of a row. -/
theorem delete {B n i j : Nat} {v : Value} {cs : List Value} {w : World} (hij : i ≤ j) (hj : j ≤ n) (ho : w.ownsRow B 60 2 v n cs) (h1 : ∀ u ∈ cs, u.oneCell' = true) :
    Calls Try.prog 26 #[v, .int .i64 (i : Int), .int .i64 (j : Int)] w (Deletes B v.ownBlock (i + (n - j)) (cs.take (i * 2) ++ cs.drop (j * 2)) w) := by
  by_cases e : i = j
  · subst e
    rw [List.take_append_drop, show i + (n - i) = n by omega]
    rcases ho.2 with ⟨rfl, rfl⟩ | ⟨g, cap, cur, rfl, hbg, hg, hnc, hc, hsz, ht⟩
    · exact (delete_none hj (Nat.le_refl _)).mono fun e w' ⟨he, hw⟩ => ⟨_, he, rfl, hw ▸ ho, hw ▸ Turns.refl _ _⟩
    · exact (delete_none hj hnc).mono fun e w' ⟨he, hw⟩ => ⟨_, he, rfl, hw ▸ ho, hw ▸ Turns.refl _ _⟩
  · rcases ho.2 with ⟨rfl, rfl⟩ | ⟨g, cap, cur, rfl, hbg, hg, hnc, hc, hsz, ht⟩
    · omega
    · exact delete_some hbg hc hnc (by omega) hj hg hsz ht h1
end Go.Proofs.Ytlodfipiodlgdaa
