/- Entries sorted by the library's slices.SortFunc, at this program's numbers. -/
import Derived.Test.YtlodfipiodlgdaaAe
import Derived.Shelf.SlSortCmp.NoneTotal
namespace Go.Proofs.Ytlodfipiodlgdaa
open Go.RowKit Go.Shelf Go.Sort

def sortRen : Ren := ⟨fun | 6 => 28 | 15 => 35 | 14 => 34 | 28 => 46 | 29 => 47 | 20 => 38 | 21 => 39 | 22 => 40 | 23 => 41 | 24 => 42 | 25 => 43 | 26 => 44 | 27 => 45 | 46 => 49 | 47 => 50 | 48 => 51 | 49 => 52 | 50 => 53 | 57 => 54 | n => n, fun | 22 => 52 | 24 => 60 | 25 => 66 | 3 => 3 | 39 => 71 | 0 => 0 | 53 => 41 | 55 => 88 | 4 => 4 | 46 => 81 | 45 => 80 | 50 => 42 | 5 => 5 | 9 => 9 | 66 => 90 | 70 => 94 | 76 => 96 | 77 => 97 | n => n, fun | n => n⟩
theorem sortLaid : SlLaysF0.n6 Try.prog sortRen := {
  mixed := by kernel_rfl
  f6 := ⟨Try.f28.name, by decide, Try.func28.trans (congrArg some (by kernel_rfl))⟩
  f14 := ⟨Try.f34.name, by decide, Try.func34.trans (congrArg some (by kernel_rfl))⟩
  f15 := Try.func35.trans (congrArg some (by kernel_rfl))
  f20 := ⟨Try.f38.name, by decide, Try.func38.trans (congrArg some (by kernel_rfl))⟩
  f21 := ⟨Try.f39.name, by decide, Try.func39.trans (congrArg some (by kernel_rfl))⟩
  f22 := ⟨Try.f40.name, by decide, Try.func40.trans (congrArg some (by kernel_rfl))⟩
  f23 := ⟨Try.f41.name, by decide, Try.func41.trans (congrArg some (by kernel_rfl))⟩
  f24 := ⟨Try.f42.name, by decide, Try.func42.trans (congrArg some (by kernel_rfl))⟩
  f25 := ⟨Try.f43.name, by decide, Try.func43.trans (congrArg some (by kernel_rfl))⟩
  f26 := ⟨Try.f44.name, by decide, Try.func44.trans (congrArg some (by kernel_rfl))⟩
  f27 := ⟨Try.f45.name, by decide, Try.func45.trans (congrArg some (by kernel_rfl))⟩
  f28 := Try.func46.trans (congrArg some (by kernel_rfl))
  f29 := Try.func47.trans (congrArg some (by kernel_rfl))
  f46 := ⟨Try.f49.name, by decide, Try.func49.trans (congrArg some (by kernel_rfl))⟩
  f47 := Try.func50.trans (congrArg some (by kernel_rfl))
  f48 := Try.func51.trans (congrArg some (by kernel_rfl))
  f49 := ⟨Try.f52.name, by decide, Try.func52.trans (congrArg some (by kernel_rfl))⟩
  f50 := ⟨Try.f53.name, by decide, Try.func53.trans (congrArg some (by kernel_rfl))⟩
  f57 := ⟨Try.f54.name, by decide, Try.func54.trans (congrArg some (by kernel_rfl))⟩
  t0 := Try.underlying0
  a0 := Try.isAgg0
  z0 := Try.sizeOf0
  v0 := Try.zeroValue0
  t3 := Try.underlying3
  a3 := Try.isAgg3
  z3 := Try.sizeOf3
  v3 := Try.zeroValue3
  t4 := Try.underlying4
  a4 := Try.isAgg4
  z4 := Try.sizeOf4
  v4 := Try.zeroValue4
  t5 := Try.underlying5
  a5 := Try.isAgg5
  z5 := Try.sizeOf5
  v5 := Try.zeroValue5
  t9 := Try.underlying9
  a9 := Try.isAgg9
  z9 := Try.sizeOf9
  v9 := Try.zeroValue9
  t22 := Try.underlying52
  a22 := Try.isAgg52
  z22 := Try.sizeOf52
  v22 := Try.zeroValue52
  t25 := Try.underlying66
  a25 := Try.isAgg66
  z25 := Try.sizeOf66
  v25 := Try.zeroValue66
  t39 := Try.underlying71
  a39 := Try.isAgg71
  z39 := Try.sizeOf71
  v39 := Try.zeroValue71
  t45 := Try.underlying80
  a45 := Try.isAgg80
  z45 := Try.sizeOf80
  v45 := Try.zeroValue80
  t46 := Try.underlying81
  a46 := Try.isAgg81
  z46 := Try.sizeOf81
  v46 := Try.zeroValue81
  t50 := Try.underlying42
  a50 := Try.isAgg42
  z50 := Try.sizeOf42
  v50 := Try.zeroValue42
  t53 := Try.underlying41
  a53 := Try.isAgg41
  z53 := Try.sizeOf41
  v53 := Try.zeroValue41
  t55 := Try.underlying88
  a55 := Try.isAgg88
  z55 := Try.sizeOf88
  v55 := Try.zeroValue88
  t66 := Try.underlying90
  a66 := Try.isAgg90
  z66 := Try.sizeOf90
  v66 := Try.zeroValue90
  t70 := Try.underlying94
  a70 := Try.isAgg94
  z70 := Try.sizeOf94
  v70 := Try.zeroValue94
  t76 := Try.underlying96
  a76 := Try.isAgg96
  z76 := Try.sizeOf96
  v76 := Try.zeroValue96
  t77 := Try.underlying97
  a77 := Try.isAgg97
  z77 := Try.sizeOf97
  v77 := Try.zeroValue97 }

theorem cmpLays (blk off size : Nat) (w : World) : CmpLays Try.prog 24 #[] cellsQ 2 cmpK blk off size w :=
  fun _ _ _ _ x y => cmpKeys x y _
theorem ltOf_lt (x y : Ky) : ltOf cmpK x y = lt x y := rfl
theorem swo : SWO (ltOf cmpK) where
  irrefl x := lt_no.2 (Lt.irrefl x)
  trans _ _ _ h1 h2 := lt_iff.2 ((lt_iff.1 h1).trans (lt_iff.1 h2))
  ntrans _ _ _ h1 h2 := lt_no.2 (fun h => le_trans (lt_no.1 h2) (lt_no.1 h1) h)
theorem partsK (x y : Ky) (h1 : ltOf cmpK x y = false) (h2 : ltOf cmpK y x = false) : x = y := le_antisymm (lt_no.1 h1) (lt_no.1 h2)
theorem merge_srt {l m : List Ky} (h : l.Perm m) (hs : Srt m) : (l.mergeSort fun x y => !(ltOf cmpK) y x) = m := by
  have hp : (l.mergeSort fun x y => !(ltOf cmpK) y x).Perm m := (List.mergeSort_perm _ _).trans h
  have hs1 := List.pairwise_mergeSort (le := fun x y => !(ltOf cmpK) y x) (fun a b c h1 h2 => by
      simp only [Bool.not_eq_true'] at *
      exact lt_no.2 (le_trans (lt_no.1 h1) (lt_no.1 h2))) (fun a b => by
      by_cases hab : Lt a b
      · simp only [Bool.or_eq_true, Bool.not_eq_true']
        exact .inl (lt_no.2 hab.asymm)
      · simp only [Bool.or_eq_true, Bool.not_eq_true']
        exact .inr (lt_no.2 hab)) l
  have hn : (l.mergeSort fun x y => !(ltOf cmpK) y x).Nodup := hp.nodup_iff.2 (pw_mono (fun _ _ h => h.ne) hs)
  refine srt_unique ?_ hs hp
  refine pw_mono ?_ (hs1.and hn)
  rintro a b ⟨h1, h2⟩
  simp only [Bool.not_eq_true'] at h1
  rcases Lt.total h2 with h' | h'
  · exact h'
  · exact absurd h' (lt_no.1 h1)

/-- What the sort leaves of memory. -/
theorem lies_sort {w : World} {blk : Nat} {cs : Array Value} (n : Nat) (d : Array Ky) (os : Array Obj) (h : Lies w blk 60 cs) :
    Lies (sortWorldK cellsQ 2 w blk 0 n d os) blk 60 (putCells id 0 (flatK cellsQ 2 d) cs) := by
  have hlt := h.lt
  unfold Lies at h ⊢
  unfold sortWorldK putRowK putRow mapBlock
  have e : (Sort.ahead w n).heap = w.heap := rfl
  simp only [grow, e, Array.getElem?_append, Array.size_modify, hlt, if_true, Array.getElem?_modify, h, Option.map_some, onCells]
theorem turns_sort {w : World} {blk : Nat} (n : Nat) (d : Array Ky) (os : Array Obj) : Turns (fun k => k = blk) w (sortWorldK cellsQ 2 w blk 0 n d os) := by
  have e : (Sort.ahead w n).heap = w.heap := rfl
  refine ⟨rfl, rfl, rfl, ?_, fun k hk hne => ?_⟩
  · simp [sortWorldK, putRowK, putRow, mapBlock, grow]
  · have hne' : ¬ blk = k := fun e => hne e.symm
    unfold sortWorldK putRowK putRow mapBlock
    simp only [grow, e, Array.getElem?_append, Array.size_modify, hk, if_true, Array.getElem?_modify, hne', if_false]
theorem KRow.turns {w w' : World} {g n : Nat} {l : List Ky} {S : Nat → Prop} (h : KRow w g n l) (ht : Turns S w w') (hS : ¬ S g) : KRow w' g n l := by
  obtain ⟨cs, h1, h2⟩ := h
  exact ⟨cs, h1.turns ht hS, h2⟩
theorem holds_row {w : World} {g n : Nat} {l : List Ky} (h : KRow w g n l) : HoldsK cellsQ 2 w g 0 l.toArray := by
  obtain ⟨cs, h1, h2, h3, h4⟩ := h
  intro j hj
  refine ⟨?_, h1.thawed _⟩
  have hj' : j < l.length * 2 := by simpa using hj
  rw [get_flatK _ _ _ _ (by simpa using hj'), h1.cell, Nat.zero_add]
  have hi : j / 2 < l.length := by omega
  have e1 : l.toArray[j / 2]! = l[j / 2] := by rw [getElem!_pos l.toArray (j / 2) (by simpa using hi)]; simp
  rw [e1]
  have hc : j % 2 < (cellsQ l[j / 2]).length := by rw [len_cellsQ]; omega
  have := h4 (j / 2) l[j / 2] (List.getElem?_eq_getElem hi) (j % 2) ((cellsQ l[j / 2])[j % 2]) (List.getElem?_eq_getElem hc)
  rw [show j / 2 * 2 + j % 2 = j by omega] at this
  rw [this, getElem!_pos (cellsQ l[j / 2]) (j % 2) hc]
  rfl
theorem row_sort {w : World} {g n : Nat} {l m : List Ky} (q : Nat) (os : Array Obj) (h : KRow w g n l) (hp : l.Perm m) : KRow (sortWorldK cellsQ 2 w g 0 q m.toArray os) g n m := by
  have hH := holdsK_sortWorldK_c cellsQ 2 w g 0 l.toArray m.toArray q os (holds_row h) h.lt (by simpa using hp.length_eq.symm)
  obtain ⟨cs, h1, h2, h3, h4⟩ := h
  have hL := lies_sort q m.toArray os h1
  refine ⟨_, hL, by simpa [putCells] using h2, by rw [← hp.length_eq]; exact h3, fun i t hi j v hj => ?_⟩
  have hil := (List.getElem?_eq_some_iff.1 hi).1
  have hj4 : j < 2 := (List.getElem?_eq_some_iff.1 hj).1
  have := (hH.cell (i := i) (c := j) (by simpa using hil) hj4).1
  rw [hL.cell, Nat.zero_add] at this
  rw [this]
  have e1 : m.toArray[i]! = t := by rw [getElem!_pos m.toArray i (by simpa using hil)]; simp [(List.getElem?_eq_some_iff.1 hi).2]
  rw [e1, getElem!_pos (cellsQ t) j (by rw [len_cellsQ]; exact hj4), (List.getElem?_eq_some_iff.1 hj).2]
/-- The keys of a row, sorted in place. -/
def Sorts (g n : Nat) (m : List Ky) (w : World) (e : Ending) (w' : World) : Prop := e = .returned (.tuple #[]) ∧ KRow w' g n m ∧ Turns (fun k => k = g) w w'
theorem sortRow {g n c : Nat} {l m : List Ky} {w : World} (h : KRow w g n l) (hp : l.Perm m) (hs : Srt m) (hl : l.length ≤ 1024) :
    Calls Try.prog 28 #[.slice (some ⟨g, 0, none⟩) l.length c, .func (.func 24) #[] #[]] w (Sorts g n m w) := by
  have eg : ∀ args w, (callFunc 24 args).run Try.prog w = .ok (.enter 24 args) w := enters_of Try.func24 (by kernel_rfl) rfl
  have hcon := AnyQ.slices_SortFunc_total sortLaid 2 Try.isAgg60 Try.sizeOf60 cellsQ (fun _ => rfl) one_cellsQ cmpK swo 24 #[] g 0 c l.toArray w eg (cmpLays _ _ _ _) (holds_row h) h.lt (by simp; omega) partsK
  have e1 : l.toArray.size = l.length := by simp
  rw [e1] at hcon
  refine Calls.mono hcon fun e w' ⟨he, q, os, hw⟩ => ?_
  have e2 : l.toArray.toList = l := by simp
  rw [e2, merge_srt hp hs] at hw
  subst hw
  exact ⟨he, row_sort q os h hp, turns_sort q _ os⟩
theorem sortNone (a : Option Addr) (c : Nat) (w : World) : Calls Try.prog 28 #[.slice a 0 c, .func (.func 24) #[] #[]] w (Says (.tuple #[]) w) :=
  Calls.mono (AnyF.slices_SortFunc_none sortLaid a c (.func (.func 24) #[] #[]) w) fun _ _ ⟨he, hw⟩ => ⟨he, hw.symm⟩
end Go.Proofs.Ytlodfipiodlgdaa
