/- Whether rows, and verdicts, are alike: the program's word and the statements'. A row that is known whole. -/
import Derived.Test.YtklnokhabomnfaaIv
import Derived.Deep.DeepCutAuto
namespace Go.Proofs.Ytklnokhabomnfaa
open Go.RowKit

/-- Block g is just the numbers R. -/
def Row (W : World) (g : Nat) (R : List Int) : Prop := Lies W g 3 (cellsI R).toArray
section
variable {w W : World} {g B : Nat} {R : List Int}
theorem Row.ints (h : Row W g R) : Ints W (some ⟨g, 0, none⟩) R.length R :=
  ⟨Nat.le_refl _, (fun h => by cases h), fun _ => ⟨g, 0, rfl, h.lt, fun i t hi => by
    rw [h.cell, Nat.zero_add]; simp [cellsI, hi]⟩⟩
theorem Row.cell (h : Row W g R) {i : Nat} {t : Int} (hi : R[i]? = some t) : W.cell? ⟨g, i, none⟩ = some (.int .i64 t) := by
  rw [Lies.cell h]; simp [cellsI, hi]
theorem Row.put (h : Row W g R) (i : Nat) (x : Int) : Row (W.setCell ⟨g, i, none⟩ (.int .i64 x)) g (R.set i x) := by
  have := Lies.here h i (.int .i64 x)
  unfold Row
  have e : (cellsI (R.set i x)).toArray = (cellsI R).toArray.setIfInBounds i (.int .i64 x) := by
    simp [cellsI, List.map_set]
  rw [e]; exact this
theorem Row.below (h : Row W g R) (hb : Below B W w) (hg : g < B) : Row w g R := Lies.below h hb hg
theorem Row.tells (h : Row W g R) (hb : Below W.heap.size W w) : Row w g R := Lies.below h hb h.lt
theorem Row.made (W : World) (n : Nat) : Row (W.alloc (.cells (madeCells #[.int .i64 0] n) 3)) W.heap.size (List.replicate n 0) := by
  have := Lies.made W 3 (madeCells #[.int .i64 0] n)
  unfold Row
  have e : (cellsI (List.replicate n 0)).toArray = madeCells #[.int .i64 0] n := by
    apply Array.ext'
    simp [cellsI, madeCells, List.map_replicate, Nat.mod_one, List.map_const']
  rw [e]; exact this
end
theorem make_nums (n : Nat) (hn : n ≤ 1000) (W : World) : (Instr.makeSlice 27 (.int .i64 (n : Int)) (.int .i64 (n : Int))).run Try.prog W = .ok (.slice (some ⟨W.heap.size, 0, none⟩) n n) (W.alloc (.cells (madeCells #[.int .i64 0] n) 3)) := by
  obtain ⟨i0, hi0, hz0, hs0, hb0⟩ := intInfo
  have := run_make (P := Try.prog) W 27 3 i0 (Value.int .i64 0) Try.underlying27 hi0 hz0 .i64 .i64 n n (by omega) (by omega) (by rw [hb0]; omega) (by omega)
  rw [hs0] at this
  simpa [Value.cells] using this

/-- The first k are alike. -/
def EqRel (l l' : List Int) (w : World) (i : Value) (W : World) : Prop := ∃ k m : Nat, k ≤ l.length ∧ i = .int .i64 (k : Int) ∧ l.take k = l'.take k ∧ W = w.drewN m
theorem eq_next {l l' : List Int} {k : Nat} {u : Int} (h : l.take k = l'.take k) (hu : l[k]? = some u) (hv : l'[k]? = some u) : l.take (k + 1) = l'.take (k + 1) := by
  rw [List.take_add_one, List.take_add_one, hu, hv, h]
theorem eq_no {l l' : List Int} {k : Nat} {u v : Int} (hu : l[k]? = some u) (hv : l'[k]? = some v) (h : u ≠ v) : decide (l = l') = false := decide_eq_false (fun e => by
  subst e
  rw [hu] at hv
  exact h (Option.some.inj hv))
theorem eq_yes {l l' : List Int} {n : Nat} (h : l.take n = l'.take n) (hn : l.length = n) (hm : l'.length = n) : decide (l = l') = true := decide_eq_true (by
  rwa [List.take_of_length_le (by omega), List.take_of_length_le (by omega)] at h)
theorem eq_len {l l' : List Int} {n m : Nat} (hn : l.length = n) (hm : l'.length = m) (h : n ≠ m) : decide (l = l') = false := decide_eq_false (fun e => by subst e; omega)
section
variable {l l' : List Int} {x y : Option Addr} {c d n m : Nat} {w : World}
set_option maxHeartbeats 2000000 in
theorem equal (hn : l.length = n) (hm : l'.length = m) (hl : n ≤ 4000) (hl' : m ≤ 4000) (hx : Ints w x c l) (hy : Ints w y d l') :
    Calls Try.prog 25 #[.slice x n c, .slice y m d] w (Saw (.bool (decide (l = l'))) w) := by
  have HX := Lib.hid hx
  have HY := Lib.hid hy
  clear hx hy
  by_cases hnm : n = m
  · subst hnm
    go_enter Try.func25, Try.ntmps25
    go_wp2
    go_loopw [13] (fun i W => EqRel l l' w i W) (fun i _ => n - (intOf i).toNat)
    case atStart => exact ⟨0, 0, by omega, rfl, rfl, rfl⟩
    case round =>
      obtain ⟨k, q, hk, rfl, he, rfl⟩ := hrel
      have HE := Lib.hid he
      clear he
      by_cases hlt : k < n
      · have t1 : decide ((k : Int) < (n : Int)) = true := by simp; omega
        have hu : l[k]? = some (l[k]'(by omega)) := List.getElem?_eq_getElem (by omega)
        have hv : l'[k]? = some (l'[k]'(by omega)) := List.getElem?_eq_getElem (by omega)
        obtain ⟨b1, o1, rfl, _, hcu⟩ := HX.out.at_ hu
        obtain ⟨b2, o2, rfl, _, hcv⟩ := HY.out.at_ hv
        have cu := hcu w (Below.refl _ _)
        have cv := hcv w (Below.refl _ _)
        have HU := Lib.hid hu
        have HV := Lib.hid hv
        clear hu hv hcu hcv
        generalize l[k]'_ = u at cu HU
        generalize l'[k]'_ = v at cv HV
        by_cases huv : u = v
        · subst huv
          have HN := Lib.hid (eq_next HE.out HU.out HV.out)
          go_wp2
          go_quiet (fail)
          go_wp2
          go_roundw
          case rel => first | exact ⟨k + 1, _, by omega, by go_num, HN.out, rfl⟩ | exact ⟨k + 1, _, by omega, by go_num, HN.out, World.drewN_drewN _ _ _⟩
          case measure => simp [intOf]; omega
        · have t2 : (u == v) = false := beq_eq_false_iff_ne.2 huv
          have t3 : (u != v) = true := by simp [huv]
          have HD := Lib.hid (eq_no HU.out HV.out huv)
          go_wp2
          go_quiet (fail)
          go_wp2
          go_ret
          exact ⟨by rw [HD.out]; rfl, _, World.drewN_drewN _ _ _⟩
      · have t1 : decide ((k : Int) < (n : Int)) = false := by simp; omega
        have t1' : decide (k < n) = false := by simp; omega
        obtain rfl : k = n := by omega
        have HD := Lib.hid (eq_yes HE.out hn hm)
        go_wp2
        go_ret
        exact ⟨by rw [HD.out]; rfl, q, rfl⟩
  · have t2 : ((n : Int) == (m : Int)) = false := beq_eq_false_iff_ne.2 (by omega)
    have t3 : ((n : Int) != (m : Int)) = true := by simp; omega
    have t4 : (n == m) = false := beq_eq_false_iff_ne.2 hnm
    have HD := Lib.hid (eq_len hn hm hnm)
    go_enter Try.func25, Try.ntmps25
    go_wp2
    go_ret
    exact ⟨by rw [HD.out]; rfl, 0, rfl⟩
set_option maxHeartbeats 2000000 in
theorem refEqual (hn : l.length = n) (hm : l'.length = m) (hl : n ≤ 4000) (hl' : m ≤ 4000) (hx : Ints w x c l) (hy : Ints w y d l') :
    Calls Try.prog 19 #[.slice x n c, .slice y m d] w (Saw (.bool (decide (l = l'))) w) := by
  have HX := Lib.hid hx
  have HY := Lib.hid hy
  clear hx hy
  by_cases hnm : n = m
  · subst hnm
    go_enter Try.func19, Try.ntmps19
    go_wp2
    go_loopw [5] (fun i W => EqRel l l' w i W) (fun i _ => n - (intOf i).toNat)
    case atStart => exact ⟨0, 0, by omega, rfl, rfl, rfl⟩
    case round =>
      obtain ⟨k, q, hk, rfl, he, rfl⟩ := hrel
      have HE := Lib.hid he
      clear he
      by_cases hlt : k < n
      · have t1 : decide ((k : Int) < (n : Int)) = true := by simp; omega
        have hu : l[k]? = some (l[k]'(by omega)) := List.getElem?_eq_getElem (by omega)
        have hv : l'[k]? = some (l'[k]'(by omega)) := List.getElem?_eq_getElem (by omega)
        obtain ⟨b1, o1, rfl, _, hcu⟩ := HX.out.at_ hu
        obtain ⟨b2, o2, rfl, _, hcv⟩ := HY.out.at_ hv
        have cu := hcu w (Below.refl _ _)
        have cv := hcv w (Below.refl _ _)
        have HU := Lib.hid hu
        have HV := Lib.hid hv
        clear hu hv hcu hcv
        generalize l[k]'_ = u at cu HU
        generalize l'[k]'_ = v at cv HV
        by_cases huv : u = v
        · subst huv
          have HN := Lib.hid (eq_next HE.out HU.out HV.out)
          go_wp2
          go_quiet (fail)
          go_wp2
          go_roundw
          case rel => first | exact ⟨k + 1, _, by omega, by go_num, HN.out, rfl⟩ | exact ⟨k + 1, _, by omega, by go_num, HN.out, World.drewN_drewN _ _ _⟩
          case measure => simp [intOf]; omega
        · have t2 : (u == v) = false := beq_eq_false_iff_ne.2 huv
          have t3 : (u != v) = true := by simp [huv]
          have HD := Lib.hid (eq_no HU.out HV.out huv)
          go_wp2
          go_quiet (fail)
          go_wp2
          go_ret
          exact ⟨by rw [HD.out]; rfl, _, World.drewN_drewN _ _ _⟩
      · have t1 : decide ((k : Int) < (n : Int)) = false := by simp; omega
        have t1' : decide (k < n) = false := by simp; omega
        obtain rfl : k = n := by omega
        have HD := Lib.hid (eq_yes HE.out hn hm)
        go_wp2
        go_ret
        exact ⟨by rw [HD.out]; rfl, q, rfl⟩
  · have t2 : ((n : Int) == (m : Int)) = false := beq_eq_false_iff_ne.2 (by omega)
    have t3 : ((n : Int) != (m : Int)) = true := by simp; omega
    have t4 : (n == m) = false := beq_eq_false_iff_ne.2 hnm
    have HD := Lib.hid (eq_len hn hm hnm)
    go_enter Try.func19, Try.ntmps19
    go_wp2
    go_ret
    exact ⟨by rw [HD.out]; rfl, 0, rfl⟩

/-- A verdict, as a value. -/
abbrev vdV (ok : Bool) (late : Int) (a : Option Addr) (n c : Nat) : Value := .agg #[.bool ok, .int .i64 late, .slice a n c]
def sameV (ok is : Bool) (i j : Int) (l l' : List Int) : Bool := (ok == is) && ((i == j) && decide (l = l'))
set_option maxHeartbeats 2000000 in
theorem sameVerdict (ok is : Bool) (i j : Int) (hn : l.length = n) (hm : l'.length = m) (hl : n ≤ 4000) (hl' : m ≤ 4000) (hx : Ints w x c l) (hy : Ints w y d l') :
    Calls Try.prog 16 #[vdV ok i x n c, vdV is j y m d] w (Gives (.bool (sameV ok is i j l l')) w) := by
  obtain ⟨X, hX⟩ : ∃ X, X = (w.alloc (.cells #[.bool ok, .int .i64 i, .slice x n c] 29)).alloc (.cells #[.bool is, .int .i64 j, .slice y m d] 29) := ⟨_, rfl⟩
  have HB : Hid (Below w.heap.size w X) := by rw [hX]; exact (below_new _ _).alloc (by simp) _
  have HL1 : Hid (Lies X w.heap.size 29 #[.bool ok, .int .i64 i, .slice x n c]) := by rw [hX]; exact (Lies.made _ _ _).alloc _
  have HL2 := Lib.hid (show Lies X (w.heap.size + 1) 29 #[.bool is, .int .i64 j, .slice y m d] by
    rw [hX]
    have := Lies.made (w.alloc (.cells #[.bool ok, .int .i64 i, .slice x n c] 29)) 29 #[.bool is, .int .i64 j, .slice y m d]
    simpa using this)
  have KE := Lib.hid (equal hn hm hl hl' (hx.tells HB.out) (hy.tells HB.out))
  generalize hE : decide (l = l') = q at KE
  have HE := Lib.hid hE
  have HXE := Lib.hid hX
  clear hX hx hy hE
  go_enter Try.func16, Try.ntmps16
  go_upto_region 1 with fail
  rw [← HXE.out]
  have y0 : X.cell? ⟨w.heap.size, 0, none⟩ = some (.bool ok) := HL1.out.cell 0
  have y1 : X.cell? ⟨w.heap.size, 1, none⟩ = some (.int .i64 i) := HL1.out.cell 1
  have y2 : X.cell? ⟨w.heap.size, 2, none⟩ = some (.slice x n c) := HL1.out.cell 2
  have z0 : X.cell? ⟨w.heap.size + 1, 0, none⟩ = some (.bool is) := HL2.out.cell 0
  have z1 : X.cell? ⟨w.heap.size + 1, 1, none⟩ = some (.int .i64 j) := HL2.out.cell 1
  have z2 : X.cell? ⟨w.heap.size + 1, 2, none⟩ = some (.slice y m d) := HL2.out.cell 2
  by_cases h1 : ok = is
  · subst h1
    by_cases h2 : i = j
    · subst h2
      have e1 : (ok == ok) = true := by cases ok <;> rfl
      have e2 : (i == i) = true := by simp
      go_wp2_with (fail)
      with_reducible refine KE.out.mono ?_
      rintro e w1 ⟨rfl, p, rfl⟩
      go_wp2
      go_ret
      exact ⟨by unfold sameV; rw [HE.out]; simp, below_drewN HB.out p⟩
    · have e1 : (ok == ok) = true := by cases ok <;> rfl
      have e2 : (i == j) = false := beq_eq_false_iff_ne.2 h2
      go_wp2
      go_ret
      exact ⟨by unfold sameV; rw [e2]; simp, HB.out⟩
  · have e1 : (ok == is) = false := beq_eq_false_iff_ne.2 h1
    go_wp2
    go_ret
    exact ⟨by unfold sameV; rw [e1]; simp, HB.out⟩
set_option maxHeartbeats 4000000 in
theorem refVerdict (ok is : Bool) (i j : Int) (hn : l.length = n) (hm : l'.length = m) (hl : n ≤ 4000) (hl' : m ≤ 4000) (hx : Ints w x c l) (hy : Ints w y d l') :
    Calls Try.prog 14 #[vdV ok i x n c, vdV is j y m d] w (Gives (.bool (sameV ok is i j l l')) w) := by
  obtain ⟨X, hX⟩ : ∃ X, X = (w.alloc (.cells #[.bool ok, .int .i64 i, .slice x n c] 29)).alloc (.cells #[.bool is, .int .i64 j, .slice y m d] 29) := ⟨_, rfl⟩
  have HB : Hid (Below w.heap.size w X) := by rw [hX]; exact (below_new _ _).alloc (by simp) _
  have HL1 : Hid (Lies X w.heap.size 29 #[.bool ok, .int .i64 i, .slice x n c]) := by rw [hX]; exact (Lies.made _ _ _).alloc _
  have HL2 := Lib.hid (show Lies X (w.heap.size + 1) 29 #[.bool is, .int .i64 j, .slice y m d] by
    rw [hX]
    have := Lies.made (w.alloc (.cells #[.bool ok, .int .i64 i, .slice x n c] 29)) 29 #[.bool is, .int .i64 j, .slice y m d]
    simpa using this)
  have HX := Lib.hid (hx.tells HB.out)
  have HY := Lib.hid (hy.tells HB.out)
  have HXE := Lib.hid hX
  clear hX hx hy
  go_enter Try.func14, Try.ntmps14
  go_upto_region 1 with fail
  rw [← HXE.out]
  clear HXE
  have y0 : X.cell? ⟨w.heap.size, 0, none⟩ = some (.bool ok) := HL1.out.cell 0
  have y1 : X.cell? ⟨w.heap.size, 1, none⟩ = some (.int .i64 i) := HL1.out.cell 1
  have y2 : X.cell? ⟨w.heap.size, 2, none⟩ = some (.slice x n c) := HL1.out.cell 2
  have z0 : X.cell? ⟨w.heap.size + 1, 0, none⟩ = some (.bool is) := HL2.out.cell 0
  have z1 : X.cell? ⟨w.heap.size + 1, 1, none⟩ = some (.int .i64 j) := HL2.out.cell 1
  have z2 : X.cell? ⟨w.heap.size + 1, 2, none⟩ = some (.slice y m d) := HL2.out.cell 2
  by_cases h1 : ok = is
  · subst h1
    have e1 : (ok == ok) = true := by cases ok <;> rfl
    have e1' : (ok != ok) = false := by cases ok <;> rfl
    by_cases h2 : i = j
    · subst h2
      have e2 : (i == i) = true := by simp
      have e2' : (i != i) = false := by simp
      by_cases hnm : n = m
      · subst hnm
        have e3 : (n == n) = true := by simp
        go_wp2
        go_loopw [5] (fun i W => EqRel l l' X i W) (fun i _ => n - (intOf i).toNat)
        case atStart => exact ⟨0, 0, by omega, rfl, rfl, rfl⟩
        case round =>
          obtain ⟨k, q, hk, rfl, he, rfl⟩ := hrel
          have HE := Lib.hid he
          clear he
          by_cases hlt : k < n
          · have t1 : decide ((k : Int) < (n : Int)) = true := by simp; omega
            have hu : l[k]? = some (l[k]'(by omega)) := List.getElem?_eq_getElem (by omega)
            have hv : l'[k]? = some (l'[k]'(by omega)) := List.getElem?_eq_getElem (by omega)
            obtain ⟨b1, o1, rfl, _, hcu⟩ := HX.out.at_ hu
            obtain ⟨b2, o2, rfl, _, hcv⟩ := HY.out.at_ hv
            have cu := hcu X (Below.refl _ _)
            have cv := hcv X (Below.refl _ _)
            have HU := Lib.hid hu
            have HV := Lib.hid hv
            clear hu hv hcu hcv
            generalize l[k]'_ = u at cu HU
            generalize l'[k]'_ = v at cv HV
            by_cases huv : u = v
            · subst huv
              have HN := Lib.hid (eq_next HE.out HU.out HV.out)
              go_wp2
              go_quiet (fail)
              go_wp2
              go_roundw
              case rel => first | exact ⟨k + 1, _, by omega, by go_num, HN.out, rfl⟩ | exact ⟨k + 1, _, by omega, by go_num, HN.out, World.drewN_drewN _ _ _⟩
              case measure => simp [intOf]; omega
            · have t2 : (u == v) = false := beq_eq_false_iff_ne.2 huv
              have t3 : (u != v) = true := by simp [huv]
              have HD := Lib.hid (eq_no HU.out HV.out huv)
              go_wp2
              go_quiet (fail)
              go_wp2
              go_ret
              exact ⟨by unfold sameV; rw [HD.out]; simp, below_drewN (below_drewN HB.out _) _⟩
          · have t1 : decide ((k : Int) < (n : Int)) = false := by simp; omega
            have t1' : decide (k < n) = false := by simp; omega
            obtain rfl : k = n := by omega
            have HD := Lib.hid (eq_yes HE.out hn hm)
            go_wp2
            go_ret
            exact ⟨by unfold sameV; rw [HD.out]; simp, below_drewN HB.out _⟩
      · have t2 : ((n : Int) == (m : Int)) = false := beq_eq_false_iff_ne.2 (by omega)
        have t3 : ((n : Int) != (m : Int)) = true := by simp; omega
        have t4 : (n == m) = false := beq_eq_false_iff_ne.2 hnm
        have HD := Lib.hid (eq_len hn hm hnm)
        go_wp2
        go_ret
        exact ⟨by unfold sameV; rw [HD.out]; simp, HB.out⟩
    · have e2 : (i == j) = false := beq_eq_false_iff_ne.2 h2
      have e2' : (i != j) = true := by simp [h2]
      go_wp2
      go_ret
      exact ⟨by unfold sameV; rw [e2]; simp, HB.out⟩
  · have e1 : (ok == is) = false := beq_eq_false_iff_ne.2 h1
    have e1' : (ok != is) = true := by simp [h1]
    go_wp2
    go_ret
    exact ⟨by unfold sameV; rw [e1]; simp, HB.out⟩
end
end Go.Proofs.Ytklnokhabomnfaa
