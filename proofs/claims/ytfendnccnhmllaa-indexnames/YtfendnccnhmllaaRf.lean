/- Texts in a row, and the statements' own looks at them: where a text stands, whether two rows are the same, whether they are few. -/
import Derived.Test.YtfendnccnhmllaaSo
import Derived.ProofKit
import Derived.OpenShut
import Derived.Deep.Strs
namespace Go.Proofs.Ytfendnccnhmllaa
open Go.ChangeShapes Go.WideShapes Go.RowKit

/-- A slice that begins at a reads as the texts l (nil and empty ones counted in). -/
def Reads (w : World) (a : Option Addr) (l : List ByteArray) : Prop :=
  0 < l.length → ∃ b off, a = some ⟨b, off, none⟩ ∧ b < w.heap.size ∧ ∀ i u, l[i]? = some u → w.cell? ⟨b, off + i, none⟩ = some (.string u)
theorem Reads.below {w w' : World} {a : Option Addr} {l : List ByteArray} {B : Nat} (h : Reads w a l) (hB : w.heap.size ≤ B) (hb : Below B w w') : Reads w' a l := by
  intro h0
  obtain ⟨b, off, ha, hlt, hc⟩ := h h0
  refine ⟨b, off, ha, Nat.lt_of_lt_of_le hlt hb.size, fun i u hu => ?_⟩
  rw [hb.cell (p := ⟨b, off + i, none⟩) (Nat.lt_of_lt_of_le hlt hB)]; exact hc i u hu
theorem Reads.drewN {w : World} {a : Option Addr} {l : List ByteArray} (h : Reads w a l) (n : Nat) : Reads (w.drewN n) a l := h
theorem Reads.nil {w : World} {a : Option Addr} : Reads w a [] := fun h => by cases h
theorem Reads.mk {w : World} {x : Addr} {len cap : Nat} {zs : List ByteArray} (hl : len ≤ cap) (hz : zs.length = cap) (hcell : ∀ i u, zs[i]? = some u → w.cell? (x.add i) = some (.string u)) : Reads w (some x) (zs.take len) := by
  intro h0
  have h0' : 0 < zs.length := by rw [List.length_take] at h0; omega
  obtain ⟨b, off, spot⟩ := x
  have hc := hcell 0 _ (List.getElem?_eq_getElem h0')
  have hspot : spot = none := by simpa [Addr.add] using World.cell?_spot hc
  subst hspot
  refine ⟨b, off, rfl, block_lt_of_cell hc, fun i u hu => ?_⟩
  rw [List.getElem?_take] at hu
  split at hu
  · have hci := hcell i u hu
    have hadd : (Addr.mk b off none).add i = ⟨b, off + i, none⟩ := by cases i <;> simp [Addr.add]
    rwa [hadd] at hci
  · cases hu
theorem Reads.own {w : World} {B n : Nat} {v : Value} {l : List ByteArray} (h : w.ownsRow B 9 1 v n (l.map .string)) : ∃ a cap, v = .slice a n cap ∧ n = l.length ∧ Reads w a l := by
  have hlen := h.1
  rw [List.length_map, Nat.mul_one] at hlen
  obtain ⟨a, cap, rfl, _, hat⟩ := own_form h
  refine ⟨a, cap, rfl, hlen.symm, fun h0 => ?_⟩
  obtain ⟨g, rfl, hc⟩ := hat (by omega)
  refine ⟨g, 0, rfl, (own_lt h rfl).2, fun i u hu => ?_⟩
  rw [Nat.zero_add]
  exact hc i _ (by rw [List.getElem?_map, hu]; rfl)

section
variable {H : Type} {enc : TypeId × Value → H} {W : World} {a : Option Addr} {len cap : Nat} {d : DataW H} {p : List MemPlace}
theorem texts_of (h : DataW.Trod enc Try.prog W 0 (fun _ => true) true 22 (.slice a len cap) d p) : ∃ l : List ByteArray, l.length = len ∧ len ≤ maxLen ∧ Reads W a l := by
  obtain ⟨fuel, hf⟩ := h
  rcases Go.Deep.open_strs Try.underlying22 Try.underlying9 (by kernel_rfl) hf with ⟨hcs, _⟩ | ⟨x, ln, cp, m, Sx, hcs, _, hl, hm, hmm, _, hc⟩
  · simp [Value.cells] at hcs
    obtain ⟨rfl, rfl, rfl⟩ := hcs
    exact ⟨[], rfl, Nat.zero_le _, Reads.nil⟩
  · simp [Value.cells] at hcs
    obtain ⟨rfl, rfl, rfl⟩ := hcs
    have hm' : m = cap := by simpa using hmm
    subst hm'
    have := Reads.mk (w := W) (x := x) (zs := (List.range m).map Sx) hl (by simp) (fun i u hu => by
      have hi : i < m := by have := (List.getElem?_eq_some_iff.1 hu).1; simpa using this
      have : Sx i = u := by simpa [hi] using hu
      rw [← this]; exact (hc i hi).1)
    exact ⟨_, by simp; omega, by omega, this⟩
end

def FindRel (l : List ByteArray) (s : ByteArray) (w : World) (i : Value) (W : World) : Prop := ∃ k : Nat, k ≤ l.length ∧ i = .int .i64 (k : Int) ∧ W = w ∧ ∀ j, j < k → l[j]? ≠ some s

set_option maxHeartbeats 1000000 in
/-- Where s stands first; below 0: it isn't there. -/
theorem ref_find (l : List ByteArray) (s : ByteArray) (a : Option Addr) (cap : Nat) {w : World} (hl : l.length ≤ 1000) (hr : Reads w a l) (r : Int)
    (hy : ∀ k : Nat, l[k]? = some s → (∀ j, j < k → l[j]? ≠ some s) → r = (k : Int)) (hn : (∀ j : Nat, l[j]? ≠ some s) → r = -1) :
    Calls Try.prog 13 #[.slice a l.length cap, .string s] w (Says (.int .i64 r) w) := by
  have HR := Lib.hid hr
  have HY := Lib.hid hy
  have HN := Lib.hid hn
  clear hr hy hn
  go_enter Try.func13, Try.ntmps13
  go_wp2
  go_loopw [5] (fun i W => FindRel l s w i W) (fun i _ => l.length - (intOf i).toNat)
  case atStart => exact ⟨0, by omega, rfl, rfl, fun j hj => by omega⟩
  case round =>
    obtain ⟨k, hk, rfl, rfl, hall⟩ := hrel
    have HA := Lib.hid hall
    clear hall
    by_cases hlt : k < l.length
    · have t1 : decide ((k : Int) < (l.length : Int)) = true := by simp; omega
      obtain ⟨b, off, rfl, _, hc⟩ := HR.out (by omega)
      have hx : l[k]? = some l[k] := by simp
      have ck := hc k _ hx
      clear hc
      have HX := Lib.hid hx
      clear hx
      generalize l[k] = x at ck HX
      by_cases he : x = s
      · have t2 : (x.toList == s.toList) = true := text_eq he
        have HV := Lib.hid (HY.out k (by rw [← he]; exact HX.out) HA.out)
        clear he
        go_wp2
        go_ret
        exact ⟨by rw [HV.out]; rfl, rfl⟩
      · have t2 : (x.toList == s.toList) = false := text_ne he
        have HA1 : Hid (∀ j, j < k + 1 → l[j]? ≠ some s) := fun j hj => by
          by_cases hjk : j = k
          · rw [hjk, HX.out]; exact fun e => he (Option.some.inj e)
          · exact HA.out j (by omega)
        clear he
        go_wp2
        go_roundw
        case rel => exact ⟨k + 1, by omega, by go_num, rfl, HA1.out⟩
        case measure => simp [intOf]; omega
    · have t1 : decide ((k : Int) < (l.length : Int)) = false := by simp; omega
      have t1' : decide (k < l.length) = false := by simp; omega
      have HV := Lib.hid (HN.out (fun j e => by
        have := (List.getElem?_eq_some_iff.1 e).1
        exact HA.out j (by omega) e))
      go_wp2
      go_ret
      exact ⟨by rw [HV.out]; rfl, rfl⟩

theorem ref_find_yes (l : List ByteArray) (s : ByteArray) (k : Nat) (a : Option Addr) (cap : Nat) {w : World} (hl : l.length ≤ 1000) (hr : Reads w a l) (hd : l.Nodup) (hk : l[k]? = some s) :
    Calls Try.prog 13 #[.slice a l.length cap, .string s] w (Says (.int .i64 (k : Int)) w) :=
  ref_find l s a cap hl hr k (fun j hj _ => by
    have : k = j := by
      obtain ⟨h1, e1⟩ := List.getElem?_eq_some_iff.1 hk
      obtain ⟨h2, e2⟩ := List.getElem?_eq_some_iff.1 hj
      rcases Nat.lt_trichotomy k j with hlt | he | hlt
      · exact absurd (e1.trans e2.symm) (List.pairwise_iff_getElem.1 hd k j h1 h2 hlt)
      · exact he
      · exact absurd (e2.trans e1.symm) (List.pairwise_iff_getElem.1 hd j k h2 h1 hlt)
    rw [this]) (fun h => absurd hk (h k))
theorem ref_find_no (l : List ByteArray) (s : ByteArray) (a : Option Addr) (cap : Nat) {w : World} (hl : l.length ≤ 1000) (hr : Reads w a l) (hs : s ∉ l) :
    Calls Try.prog 13 #[.slice a l.length cap, .string s] w (Says (.int .i64 (-1)) w) :=
  ref_find l s a cap hl hr (-1) (fun _ hk _ => absurd (List.mem_of_getElem? hk) hs) (fun _ => rfl)

def SameRel (n : Nat) (w : World) (i : Value) (W : World) : Prop := ∃ k m : Nat, k ≤ n ∧ i = .int .i64 (k : Int) ∧ W = w.drewN m

set_option maxHeartbeats 1000000 in
theorem ref_same (l : List ByteArray) (a b : Option Addr) (c d : Nat) {w : World} (hl : l.length ≤ 1000) (ha : Reads w a l) (hb : Reads w b l) :
    Calls Try.prog 16 #[.slice a l.length c, .slice b l.length d] w (Saw (.bool true) w) := by
  have HA := Lib.hid ha
  have HB := Lib.hid hb
  clear ha hb
  go_enter Try.func16, Try.ntmps16
  go_wp2
  go_loopw [5] (fun i W => SameRel l.length w i W) (fun i _ => l.length - (intOf i).toNat)
  case atStart => exact ⟨0, 0, by omega, rfl, rfl⟩
  case round =>
    obtain ⟨k, m, hk, rfl, rfl⟩ := hrel
    by_cases hlt : k < l.length
    · have t1 : decide ((k : Int) < (l.length : Int)) = true := by simp; omega
      obtain ⟨b1, o1, rfl, _, hc1⟩ := HA.out (by omega)
      obtain ⟨b2, o2, rfl, _, hc2⟩ := HB.out (by omega)
      have hx : l[k]? = some l[k] := by simp
      have ck1 := hc1 k _ hx
      have ck2 := hc2 k _ hx
      clear hc1 hc2 hx
      generalize l[k] = x at ck1 ck2
      go_wp2
      go_quiet (fail)
      go_wp2
      go_roundw
      case rel => exact ⟨k + 1, _, by omega, by go_num, rfl⟩
      case measure => simp [intOf]; omega
    · have t1 : decide ((k : Int) < (l.length : Int)) = false := by simp; omega
      have t1' : decide (k < l.length) = false := by simp; omega
      go_wp2
      go_ret
      exact ⟨rfl, m, rfl⟩

/-- Few, and short. -/
def fewB (l : List ByteArray) : Prop := l.length ≤ 300 ∧ ∀ s ∈ l, s.size ≤ 60
def FewRel (l : List ByteArray) (n : Nat) (w : World) (i : Value) (W : World) : Prop := ∃ k : Nat, k ≤ n ∧ i = .int .i64 (k : Int) ∧ W = w ∧ ∀ j s, j < k → l[j]? = some s → s.size ≤ 60
/-- 'true' of few and short texts alone. -/
def Fews (l : List ByteArray) (w : World) (e : Ending) (w' : World) : Prop := ∃ b, e = .returned (.bool b) ∧ w = w' ∧ (b = true → fewB l)

set_option maxHeartbeats 1000000 in
theorem few (l : List ByteArray) (a : Option Addr) (cap : Nat) {w : World} (hm : l.length ≤ maxLen) (hr : Reads w a l) :
    Calls Try.prog 9 #[.slice a l.length cap] w (Fews l w) := by
  unfold maxLen at hm
  have HR := Lib.hid hr
  clear hr
  go_enter Try.func9, Try.ntmps9
  go_wp2
  go_loopw [3] (fun i W => FewRel l (min l.length 400) w i W) (fun i _ => 400 - (intOf i).toNat)
  case atStart => exact ⟨0, by omega, rfl, rfl, fun j _ hj => by omega⟩
  case round =>
    obtain ⟨k, hk, rfl, rfl, hall⟩ := hrel
    have HA := Lib.hid hall
    clear hall
    by_cases hlt : k < l.length
    · have t1 : decide ((k : Int) < (l.length : Int)) = true := by simp; omega
      by_cases h4 : k < 400
      · have t2 : decide ((k : Int) < 400) = true := by simp; omega
        obtain ⟨b, off, rfl, _, hc⟩ := HR.out (by omega)
        have hx : l[k]? = some l[k] := by simp
        have ck := hc k _ hx
        clear hc
        have HX := Lib.hid hx
        clear hx
        generalize l[k] = x at ck HX
        by_cases h6 : 60 < x.size
        · have t3 : decide ((60 : Int) < (x.size : Int)) = true := by simp; omega
          go_wp2
          go_ret
          exact ⟨false, rfl, rfl, fun h => by cases h⟩
        · have t3 : decide ((60 : Int) < (x.size : Int)) = false := by simp; omega
          have HA1 : Hid (∀ j s, j < k + 1 → l[j]? = some s → s.size ≤ 60) := fun j s hj hs => by
            by_cases hjk : j = k
            · rw [hjk, HX.out] at hs
              cases hs
              omega
            · exact HA.out j s (by omega) hs
          go_wp2
          go_roundw
          case rel => exact ⟨k + 1, by omega, by go_num, rfl, HA1.out⟩
          case measure => simp [intOf]; omega
      · have t2 : decide ((k : Int) < 400) = false := by simp; omega
        have t3 : decide ((l.length : Int) ≤ 300) = false := by simp; omega
        go_wp2
        go_ret
        exact ⟨false, rfl, rfl, fun h => by cases h⟩
    · have t1 : decide ((k : Int) < (l.length : Int)) = false := by simp; omega
      have t1' : decide (k < l.length) = false := by simp; omega
      by_cases h3 : l.length ≤ 300
      · have t3 : decide ((l.length : Int) ≤ 300) = true := by simp; omega
        have HF := Lib.hid (show fewB l from ⟨h3, fun s hs => by
          obtain ⟨j, hj⟩ := List.getElem?_of_mem hs
          have := (List.getElem?_eq_some_iff.1 hj).1
          exact HA.out j s (by omega) hj⟩)
        go_wp2
        go_ret
        exact ⟨true, rfl, rfl, fun _ => HF.out⟩
      · have t3 : decide ((l.length : Int) ≤ 300) = false := by simp; omega
        go_wp2
        go_ret
        exact ⟨false, rfl, rfl, fun h => by cases h⟩
end Go.Proofs.Ytfendnccnhmllaa
