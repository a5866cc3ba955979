/- What a name is: the program's call and the statement's own. -/
import Derived.Test.YtklnokhabomnfaaMem
namespace Go.Proofs.Ytklnokhabomnfaa
open Go.RowKit

def smallB (c : Int) : Bool := decide (97 ≤ c) && decide (c ≤ 122)
def digitB (c : Int) : Bool := decide (48 ≤ c) && decide (c ≤ 57)
def signB (c : Int) : Bool := smallB c || (digitB c || c == 95)
/-- The i-th byte as a number. -/
def byteOf (s : ByteArray) (i : Nat) : Int := if h : i < s.size then (s[i].toNat : Int) else 0
/-- A small letter, and up to eleven more small letters, digits or underscores. -/
def nm (s : ByteArray) : Bool := decide (1 ≤ s.size) && (decide (s.size ≤ 12) && (smallB (byteOf s 0) && (List.range s.size).all fun i => i == 0 || signB (byteOf s i)))
theorem nm_iff (s : ByteArray) : nm s = true ↔ 1 ≤ s.size ∧ s.size ≤ 12 ∧ smallB (byteOf s 0) = true ∧ ∀ i, 1 ≤ i → i < s.size → signB (byteOf s i) = true := by
  simp only [nm, Bool.and_eq_true, decide_eq_true_eq, List.all_eq_true, List.mem_range, Bool.or_eq_true, beq_iff_eq]
  constructor
  · rintro ⟨h1, h2, h3, h4⟩
    exact ⟨h1, h2, h3, fun i hi hs => (h4 i hs).resolve_left (by omega)⟩
  · rintro ⟨h1, h2, h3, h4⟩
    refine ⟨h1, h2, h3, fun i hs => ?_⟩
    by_cases h0 : i = 0
    · exact .inl h0
    · exact .inr (h4 i (by omega) hs)
theorem nm_no {s : ByteArray} (h : ¬ (1 ≤ s.size ∧ s.size ≤ 12 ∧ smallB (byteOf s 0) = true ∧ ∀ i, 1 ≤ i → i < s.size → signB (byteOf s i) = true)) : nm s = false := by
  cases hn : nm s with
  | false => rfl
  | true => exact absurd ((nm_iff s).1 hn) h
theorem nm_short {s : ByteArray} (h : nm s = true) : s.size ≤ 12 := ((nm_iff s).1 h).2.1
theorem says_nm {s : ByteArray} {b : Bool} {w : World} (h : nm s = b) : Says (.bool (nm s)) w (.returned (.bool b)) w := ⟨by rw [h], rfl⟩

def NmRel (s : ByteArray) (w : World) (i : Value) (W : World) : Prop :=
  ∃ k : Nat, 1 ≤ k ∧ k ≤ s.size ∧ i = .int .i64 (k : Int) ∧ W = w ∧ ∀ j, 1 ≤ j → j < k → signB (byteOf s j) = true
theorem NmRel.next {s : ByteArray} {k : Nat} (hs : ∀ j, 1 ≤ j → j < k → signB (byteOf s j) = true) (h : signB (byteOf s k) = true) : ∀ j, 1 ≤ j → j < k + 1 → signB (byteOf s j) = true := by
  intro j h1 h2
  by_cases hj : j = k
  · rw [hj]; exact h
  · exact hs j h1 (by omega)

set_option maxHeartbeats 1000000 in
theorem ref_named (s : ByteArray) (w : World) : Calls Try.prog 26 #[.string s] w (Says (.bool (nm s)) w) := by
  by_cases h1 : s.size = 0
  · have HN := Lib.hid (show nm s = false from nm_no (by omega))
    go_enter Try.func26, Try.ntmps26
    go_wp2
    go_ret
    exact says_nm HN.out
  · by_cases h2 : 12 < s.size
    · have HN := Lib.hid (show nm s = false from nm_no (by omega))
      have t1 : decide ((s.size : Int) < 1) = false := by simp; omega
      have t2 : decide ((12 : Int) < (s.size : Int)) = true := by simp; omega
      go_enter Try.func26, Try.ntmps26
      go_wp2
      go_ret
      exact says_nm HN.out
    · have t1 : decide ((s.size : Int) < 1) = false := by simp; omega
      have t2 : decide ((12 : Int) < (s.size : Int)) = false := by simp; omega
      have h0 : 0 < s.size := by omega
      obtain ⟨c0, hc0⟩ : ∃ c, c = byteOf s 0 := ⟨_, rfl⟩
      have hb0 : (s[0].toNat : Int) = c0 := by rw [hc0]; simp [byteOf, h0]
      have HC0 := Lib.hid hc0
      clear hc0
      by_cases hlow : c0 < 97
      · have HN := Lib.hid (show nm s = false from nm_no (fun h => by
          have := h.2.2.1
          rw [← HC0.out] at this
          simp [smallB] at this
          omega))
        go_enter Try.func26, Try.ntmps26
        go_wp2
        go_ret
        exact says_nm HN.out
      · by_cases hhigh : 122 < c0
        · have HN := Lib.hid (show nm s = false from nm_no (fun h => by
            have := h.2.2.1
            rw [← HC0.out] at this
            simp [smallB] at this
            omega))
          go_enter Try.func26, Try.ntmps26
          go_wp2
          go_ret
          exact says_nm HN.out
        · have HS := Lib.hid (show smallB (byteOf s 0) = true by rw [← HC0.out]; simp [smallB]; omega)
          go_enter Try.func26, Try.ntmps26
          go_wp2
          go_loopw [3] (fun i W => NmRel s w i W) (fun i _ => s.size - (intOf i).toNat)
          case atStart => exact ⟨1, by omega, by omega, rfl, rfl, fun j _ _ => by omega⟩
          case round =>
            obtain ⟨k, hk1, hk, rfl, rfl, hall⟩ := hrel
            have HA := Lib.hid hall
            clear hall
            by_cases hlt : k < s.size
            · have t3 : decide ((k : Int) < (s.size : Int)) = true := by simp; omega
              obtain ⟨c, hc⟩ : ∃ c, c = byteOf s k := ⟨_, rfl⟩
              have hbk : (s[k].toNat : Int) = c := by rw [hc]; simp [byteOf, hlt]
              have HC := Lib.hid hc
              clear hc
              by_cases q1 : 97 ≤ c
              · by_cases q2 : c ≤ 122
                · have HG := Lib.hid (show signB c = true by simp [signB, smallB, digitB]; omega)
                  go_wp2
                  go_roundw
                  case rel => exact ⟨k + 1, by omega, by omega, by go_num, rfl, NmRel.next HA.out (HC.out ▸ HG.out)⟩
                  case measure => simp [intOf]; omega
                · have q3 : 48 ≤ c := by omega
                  have q4 : ¬ c ≤ 57 := by omega
                  have q5 : (c == 95) = false := by simp; omega
                  have HN := Lib.hid (show nm s = false from nm_no (fun h => by
                    have := h.2.2.2 k hk1 hlt
                    rw [← HC.out] at this
                    simp [signB, smallB, digitB] at this
                    omega))
                  go_wp2
                  go_ret
                  exact says_nm HN.out
              · by_cases q3 : 48 ≤ c
                · by_cases q4 : c ≤ 57
                  · have HG := Lib.hid (show signB c = true by simp [signB, smallB, digitB]; omega)
                    go_wp2
                    go_roundw
                    case rel => exact ⟨k + 1, by omega, by omega, by go_num, rfl, NmRel.next HA.out (HC.out ▸ HG.out)⟩
                    case measure => simp [intOf]; omega
                  · by_cases q5 : c = 95
                    · subst q5
                      have HG := Lib.hid (show signB 95 = true by simp [signB])
                      go_wp2
                      go_roundw
                      case rel => exact ⟨k + 1, by omega, by omega, by go_num, rfl, NmRel.next HA.out (HC.out ▸ HG.out)⟩
                      case measure => simp [intOf]; omega
                    · have q6 : (c == 95) = false := by simp; omega
                      have HN := Lib.hid (show nm s = false from nm_no (fun h => by
                        have := h.2.2.2 k hk1 hlt
                        rw [← HC.out] at this
                        simp [signB, smallB, digitB] at this
                        omega))
                      go_wp2
                      go_ret
                      exact says_nm HN.out
                · have q6 : (c == 95) = false := by simp; omega
                  have HN := Lib.hid (show nm s = false from nm_no (fun h => by
                    have := h.2.2.2 k hk1 hlt
                    rw [← HC.out] at this
                    simp [signB, smallB, digitB] at this
                    omega))
                  go_wp2
                  go_ret
                  exact says_nm HN.out
            · have t3 : decide ((k : Int) < (s.size : Int)) = false := by simp; omega
              have t3' : decide (k < s.size) = false := by simp; omega
              have HN := Lib.hid (show nm s = true from (nm_iff s).2 ⟨by omega, by omega, HS.out, fun i h1 h2 => HA.out i h1 (by omega)⟩)
              go_wp2
              go_ret
              exact says_nm HN.out
end Go.Proofs.Ytklnokhabomnfaa
