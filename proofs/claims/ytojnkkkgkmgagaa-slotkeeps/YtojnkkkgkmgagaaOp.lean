/- Rows of acts that come in, opened; whether they are few. -/
import Derived.Test.YtojnkkkgkmgagaaGk
import Derived.ProofKit
import Derived.OpenShut
import Derived.BigQuiet
import Derived.IntWalk
import Derived.Deep.Slices
import Derived.Deep.Fields
import Derived.Lib.SmallJoins
namespace Go.Proofs.Ytojnkkkgkmgagaa
open Go.ChangeShapes Go.WideShapes Go.RowKit

/-- An act: what is done, Id, Group, Length, From, To. -/
abbrev Ac := Int × Int × Int × Int × Int × Int
def cellsA (x : Ac) : List Value := [.int .i64 x.1, .int .i64 x.2.1, .int .i64 x.2.2.1, .int .i64 x.2.2.2.1, .int .i64 x.2.2.2.2.1, .int .i64 x.2.2.2.2.2]
/-- A slice that begins at a, with room for cap, reads as the acts l. -/
structure ActsIn (w : World) (a : Option Addr) (cap : Nat) (l : List Ac) : Prop where
  le : l.length ≤ cap
  form : 0 < l.length → ∃ b off, a = some ⟨b, off, none⟩ ∧ b < w.heap.size ∧ ∀ i t, l[i]? = some t → ∀ j v, (cellsA t)[j]? = some v → w.cell? ⟨b, off + i * 6 + j, none⟩ = some v
theorem ActsIn.below {w w' : World} {a : Option Addr} {cap B : Nat} {l : List Ac} (h : ActsIn w a cap l) (hB : w.heap.size ≤ B) (hb : Below B w w') : ActsIn w' a cap l := by
  refine ⟨h.le, fun h0 => ?_⟩
  obtain ⟨b, off, ha, hlt, hc⟩ := h.form h0
  refine ⟨b, off, ha, Nat.lt_of_lt_of_le hlt hb.size, fun i t hi j v hj => ?_⟩
  rw [hb.cell (p := ⟨b, off + i * 6 + j, none⟩) (Nat.lt_of_lt_of_le hlt hB)]; exact hc i t hi j v hj
theorem ActsIn.drewN {w : World} {a : Option Addr} {cap : Nat} {l : List Ac} (h : ActsIn w a cap l) (n : Nat) : ActsIn (w.drewN n) a cap l := h.below (Nat.le_refl _) (below_drewN (Below.refl _ _) n)
/-- An act's six cells. -/
theorem ActsIn.cells {w : World} {a : Option Addr} {cap : Nat} {l : List Ac} (h : ActsIn w a cap l) {i : Nat} {t : Ac} (hi : l[i]? = some t) : ∃ b off, a = some ⟨b, off, none⟩ ∧ b < w.heap.size ∧
    w.cell? ⟨b, off + i * 6, none⟩ = some (.int .i64 t.1) ∧ w.cell? ⟨b, off + i * 6 + 1, none⟩ = some (.int .i64 t.2.1) ∧ w.cell? ⟨b, off + i * 6 + 2, none⟩ = some (.int .i64 t.2.2.1) ∧
    w.cell? ⟨b, off + i * 6 + 3, none⟩ = some (.int .i64 t.2.2.2.1) ∧ w.cell? ⟨b, off + i * 6 + 4, none⟩ = some (.int .i64 t.2.2.2.2.1) ∧ w.cell? ⟨b, off + i * 6 + 5, none⟩ = some (.int .i64 t.2.2.2.2.2) := by
  have hlt := (List.getElem?_eq_some_iff.1 hi).1
  obtain ⟨b, off, ha, hb, hc⟩ := h.form (by omega)
  have H := fun j v => hc i t hi j v
  exact ⟨b, off, ha, hb, H 0 _ rfl, H 1 _ rfl, H 2 _ rfl, H 3 _ rfl, H 4 _ rfl, H 5 _ rfl⟩

section
variable {H : Type} {enc : TypeId × Value → H} {W : World}
theorem cells3 : Try.prog.cellsOf 3 = 1 := by kernel_rfl
theorem cells31 : Try.prog.cellsOf 31 = 6 := by kernel_rfl
theorem take_one {cs : List Value} {j : Nat} {v : Value} (h : (cs.drop j).take 1 = [v]) : cs[j]? = some v := by
  have : ((cs.drop j).take 1)[0]? = some v := by rw [h]; rfl
  rw [List.getElem?_take, if_pos (by omega), List.getElem?_drop] at this
  exact this
theorem int_field {xs : List (DataW H × List MemPlace)} {m j : Nat} {cs : List Value} (hx : j < xs.length) (h : DataW.trod enc Try.prog W 0 (fun _ => true) true m 3 ((cs.drop j).take (Try.prog.cellsOf 3)) = xs[j]?) : ∃ n : Int, cs[j]? = some (.int .i64 n) := by
  rw [List.getElem?_eq_getElem hx] at h
  obtain ⟨n, hn, _⟩ := DataW.trod_int Try.underlying3 h
  rw [cells3] at hn
  exact ⟨n, take_one hn⟩
theorem act_of_cells {m : Nat} {cs : List Value} {y : DataW H × List MemPlace} (h : DataW.trod enc Try.prog W 0 (fun _ => true) true m 31 cs = some y) : ∃ t : Ac, ∀ (j : Nat) (v : Value), (cellsA t)[j]? = some v → cs[j]? = some v := by
  obtain ⟨xs, q, _, _, _, hxl, hf⟩ := DataW.trod_struct Try.underlying31 h
  have hl : xs.length = 6 := hxl
  obtain ⟨n0, e0⟩ := int_field (j := 0) (by omega) (hf 0 _ rfl)
  obtain ⟨n1, e1⟩ := int_field (j := 1) (by omega) (hf 1 _ rfl)
  obtain ⟨n2, e2⟩ := int_field (j := 2) (by omega) (hf 2 _ rfl)
  obtain ⟨n3, e3⟩ := int_field (j := 3) (by omega) (hf 3 _ rfl)
  obtain ⟨n4, e4⟩ := int_field (j := 4) (by omega) (hf 4 _ rfl)
  obtain ⟨n5, e5⟩ := int_field (j := 5) (by omega) (hf 5 _ rfl)
  refine ⟨(n0, n1, n2, n3, n4, n5), fun j v hv => ?_⟩
  match j, hv with
  | 0, hv => rw [e0]; exact hv
  | 1, hv => rw [e1]; exact hv
  | 2, hv => rw [e2]; exact hv
  | 3, hv => rw [e3]; exact hv
  | 4, hv => rw [e4]; exact hv
  | 5, hv => rw [e5]; exact hv
  | j + 6, hv => simp [cellsA] at hv
theorem acts_of {fuel : Nat} {v : Value} {y : DataW H × List MemPlace} (h : DataW.trod enc Try.prog W 0 (fun _ => true) true fuel 22 [v] = some y) : ∃ a len cap, v = .slice a len cap ∧ ∃ l : List Ac, l.length = len ∧ len ≤ maxLen ∧ ActsIn W a cap l := by
  rcases Go.Deep.open_slice Try.underlying22 h with ⟨hcs, _⟩ | ⟨x, len, cap, m, n, D, Pl, hcs, _, hl, hm, hmm, _, hi⟩
  · have : v = .slice none 0 0 := by simpa using hcs
    exact ⟨none, 0, 0, this, [], rfl, Nat.zero_le _, Nat.le_refl _, fun h => by cases h⟩
  · have hv : v = .slice (some x) len cap := by simpa using hcs
    have hm' : m = cap := by simpa using hmm
    subst hm'
    have each : ∀ i, i < m → ∃ t : Ac, ∀ (j : Nat) (v : Value), (cellsA t)[j]? = some v → W.cell? (x.add (i * 6 + j)) = some v := by
      intro i him
      obtain ⟨cs', hc, ht⟩ := hi i him
      rw [cells31] at hc
      obtain ⟨_, hcl, hat⟩ := World.cells?_some hc
      obtain ⟨t, htt⟩ := act_of_cells ht
      refine ⟨t, fun j v hj => ?_⟩
      have hj6 : j < 6 := (List.getElem?_eq_some_iff.1 hj).1
      have h1 := hat j hj6
      rw [htt j v hj] at h1
      rw [← h1, Go.Deep.add_add]
    obtain ⟨q, hq⟩ := @Go.Deep.choose_lt Ac ⟨(0, 0, 0, 0, 0, 0)⟩ _ _ each
    refine ⟨some x, len, m, hv, (List.range len).map q, by simp, by omega, by simp; exact hl, fun h0 => ?_⟩
    have hpos : 0 < m := by simp at h0; omega
    obtain ⟨b, off, spot⟩ := x
    have hc0 := hq 0 hpos 0 _ rfl
    have hspot : spot = none := by simpa [Addr.add] using World.cell?_spot hc0
    subst hspot
    refine ⟨b, off, rfl, by have := block_lt_of_cell hc0; simpa [Addr.add] using this, fun i u hu j v hj => ?_⟩
    have hi : i < len := by have := (List.getElem?_eq_some_iff.1 hu).1; simpa using this
    have hqu : q i = u := by simpa [hi] using hu
    have := hq i (by omega) j v (by rw [hqu]; exact hj)
    rw [Addr.add_lit] at this
    rw [Nat.add_assoc]; exact this
theorem acts_in {a : Option Addr} {len cap : Nat} {d : DataW H} {p : List MemPlace} (h : DataW.Trod enc Try.prog W 0 (fun _ => true) true 22 (.slice a len cap) d p) : ∃ l : List Ac, l.length = len ∧ len ≤ maxLen ∧ ActsIn W a cap l := by
  obtain ⟨fuel, hf⟩ := h
  obtain ⟨a', len', cap', e, l, h1, h2, h3⟩ := acts_of hf
  cases e
  exact ⟨l, h1, h2, h3⟩
end

/-! few. -/
def farB (x : Ac) : Bool := decide (0 ≤ x.2.2.2.2.1) && decide (x.2.2.2.2.2 ≤ 1099511627776) && decide (x.2.2.2.2.1 ≤ x.2.2.2.2.2) && decide (2000 < x.2.2.2.2.2 - x.2.2.2.2.1)
def fewB (l : List Ac) : Bool := (l.all fun x => !farB x) && decide (l.length ≤ 40)
theorem few_len {l : List Ac} (h : fewB l = true) : l.length ≤ 40 := by
  unfold fewB at h
  rw [Bool.and_eq_true] at h
  exact of_decide_eq_true h.2
theorem few_near {l : List Ac} (h : fewB l = true) {x : Ac} (hx : x ∈ l) (h0 : 0 ≤ x.2.2.2.2.1) (h1 : x.2.2.2.2.1 ≤ x.2.2.2.2.2) (h2 : x.2.2.2.2.2 ≤ 1099511627776) : x.2.2.2.2.2 - x.2.2.2.2.1 ≤ 2000 := by
  unfold fewB at h
  rw [Bool.and_eq_true, List.all_eq_true] at h
  have := h.1 x hx
  unfold farB at this
  rw [decide_eq_true h0, decide_eq_true h1, decide_eq_true h2] at this
  have h3 : decide (2000 < x.2.2.2.2.2 - x.2.2.2.2.1) = false := by simpa using this
  have := of_decide_eq_false h3
  omega
def FewRel (l : List Ac) (w : World) (i : Value) (W : World) : Prop := ∃ k m : Nat, k ≤ l.length ∧ i = .int .i64 (k : Int) ∧ W = w.drewN m ∧ ∀ i x, i < k → l[i]? = some x → farB x = false
theorem few_yes {l : List Ac} (h : ∀ (j : Nat) x, l[j]? = some x → farB x = false) : fewB l = decide (l.length ≤ 40) := by
  unfold fewB
  rw [show (l.all fun x => !farB x) = true from List.all_eq_true.2 fun x hx => by
    obtain ⟨j, hj⟩ := List.getElem?_of_mem hx
    rw [h j x hj]; rfl]
  rfl
theorem few_no {l : List Ac} {j : Nat} {x : Ac} (hj : l[j]? = some x) (h : farB x = true) : fewB l = false := by
  unfold fewB
  rw [show (l.all fun x => !farB x) = false from List.all_eq_false.2 ⟨x, List.mem_of_getElem? hj, by rw [h]; decide⟩]
  rfl
set_option maxRecDepth 100000 in
set_option maxHeartbeats 4000000 in
theorem few (l : List Ac) (a : Option Addr) (n c : Nat) {w : World} (hn : l.length = n) (hl : n ≤ 4611686018427387904) (hk : ActsIn w a c l) : Calls Try.prog 9 #[.slice a n c] w (Saw (.bool (fewB l)) w) := by
  have HN := Lib.hid hn
  have HK := Lib.hid hk
  clear hk hn
  go_enter Try.func9, Try.ntmps9
  go_wp2
  go_loopw [3] (fun i W => FewRel l w i W) (fun i _ => n - (intOf i).toNat)
  case atStart => exact ⟨0, 0, by omega, rfl, rfl, fun i x hi => by omega⟩
  case round =>
    obtain ⟨k, m, hk, rfl, rfl, hall⟩ := hrel
    rw [HN.out] at hk
    have HA := Lib.hid hall
    clear hall
    by_cases hlt : k < n
    · have t1 : decide ((k : Int) < (n : Int)) = true := by simp; omega
      have hx : l[k]? = some (l[k]'(by rw [HN.out]; exact hlt)) := List.getElem?_eq_getElem _
      obtain ⟨b, off, rfl, hbl, x0, x1, x2, x3, x4, x5⟩ := HK.out.cells hx
      have HX := Lib.hid hx
      clear hx
      generalize l[k]'(by rw [HN.out]; exact hlt) = x at x0 x1 x2 x3 x4 x5 HX
      obtain ⟨y0, y1, y2, y3, y4, y5⟩ := x
      simp only at x0 x1 x2 x3 x4 x5
      clear x0 x1 x2 x3
      have i1 : (0 : Int) ≤ (k : Int) := by omega
      have next : Hid (farB (y0, y1, y2, y3, y4, y5) = false → ∀ i x, i < k + 1 → l[i]? = some x → farB x = false) := fun hf i x hi hx => by
        by_cases e : i = k
        · subst e
          rw [HX.out] at hx
          cases hx
          exact hf
        · exact HA.out i x (by omega) hx
      have hh : farB (y0, y1, y2, y3, y4, y5) = (decide (0 ≤ y4) && decide (y5 ≤ 1099511627776) && decide (y4 ≤ y5) && decide (2000 < y5 - y4)) := rfl
      have HH := Lib.hid hh
      clear hh
      by_cases h1 : 0 ≤ y4
      · have b1 : decide (0 ≤ y4) = true := decide_eq_true h1
        by_cases h2 : y5 ≤ 1099511627776
        · have b2 : decide (y5 ≤ 1099511627776) = true := decide_eq_true h2
          by_cases h3 : y4 ≤ y5
          · have b3 : decide (y4 ≤ y5) = true := decide_eq_true h3
            by_cases h4 : 2000 < y5 - y4
            · have b4 : decide (2000 < y5 - y4) = true := decide_eq_true h4
              have HR := Lib.hid (few_no HX.out (show farB (y0, y1, y2, y3, y4, y5) = true by rw [HH.out, b1, b2, b3, b4]; rfl))
              go_wp2
              go_quiet (fail)
              go_wp2
              go_ret
              exact ⟨by rw [HR.out]; rfl, _, World.drewN_drewN _ _ _⟩
            · have b4 : decide (2000 < y5 - y4) = false := decide_eq_false h4
              have HA1 := Lib.hid (next.out (by rw [HH.out, b4, Bool.and_false]))
              go_wp2
              go_quiet (fail)
              go_wp2
              go_roundw
              case rel => exact ⟨k + 1, _, by rw [HN.out]; omega, by go_num, rfl, HA1.out⟩
              case measure => simp [intOf]; omega
          · have b3 : decide (y4 ≤ y5) = false := decide_eq_false h3
            have HA1 := Lib.hid (next.out (by rw [HH.out, b3, Bool.and_false, Bool.false_and]))
            go_wp2
            go_quiet (fail)
            go_wp2
            go_roundw
            case rel => exact ⟨k + 1, _, by rw [HN.out]; omega, by go_num, rfl, HA1.out⟩
            case measure => simp [intOf]; omega
        · have b2 : decide (y5 ≤ 1099511627776) = false := decide_eq_false h2
          have HA1 := Lib.hid (next.out (by rw [HH.out, b2, Bool.and_false, Bool.false_and, Bool.false_and]))
          go_wp2
          go_quiet (fail)
          go_wp2
          go_roundw
          case rel => exact ⟨k + 1, _, by rw [HN.out]; omega, by go_num, rfl, HA1.out⟩
          case measure => simp [intOf]; omega
      · have b1 : decide (0 ≤ y4) = false := decide_eq_false h1
        have HA1 := Lib.hid (next.out (by rw [HH.out, b1, Bool.false_and, Bool.false_and, Bool.false_and]))
        go_wp2
        go_quiet (fail)
        go_wp2
        go_roundw
        case rel => exact ⟨k + 1, _, by rw [HN.out]; omega, by go_num, rfl, HA1.out⟩
        case measure => simp [intOf]; omega
    · have t1 : decide ((k : Int) < (n : Int)) = false := by simp; omega
      have t1' : decide (k < n) = false := by simp; omega
      have HR := Lib.hid (few_yes (l := l) (fun i x hx => HA.out i x (by have := (List.getElem?_eq_some_iff.1 hx).1; rw [HN.out] at this; omega) hx))
      generalize hb : decide (n ≤ 40) = bb
      have HBB := Lib.hid hb
      have t2 : decide ((n : Int) ≤ 40) = bb := by rw [← hb]; simp [decide_eq_decide]; omega
      clear hb
      go_wp2
      go_ret
      exact ⟨by rw [HR.out, HN.out, HBB.out]; rfl, m, rfl⟩
end Go.Proofs.Ytojnkkkgkmgagaa
