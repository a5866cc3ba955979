/- What a name is: the program's call and the statement's own. -/
import Derived.Test.YtklnokhabomnfaaNm
namespace Go.Proofs.Ytklnokhabomnfaa
open Go.RowKit

set_option maxHeartbeats 400000 in
theorem smallP (c : Int) (w : World) : Calls Try.prog 73 #[.int .u8 c] w (Says (.bool (smallB c)) w) := by
  unfold smallB
  by_cases h : 97 ≤ c
  · go_enter Try.func73, Try.ntmps73
    go_wp2
    go_ret
    exact ⟨by simp [h], rfl⟩
  · have e : decide (97 ≤ c) = false := decide_eq_false h
    have HE := Lib.hid e
    clear e
    go_enter Try.func73, Try.ntmps73
    go_wp2
    go_ret
    exact ⟨by rw [HE.out]; rfl, rfl⟩

set_option maxHeartbeats 400000 in
theorem digit (c : Int) (w : World) : Calls Try.prog 74 #[.int .u8 c] w (Says (.bool (digitB c)) w) := by
  unfold digitB
  by_cases h : 48 ≤ c
  · go_enter Try.func74, Try.ntmps74
    go_wp2
    go_ret
    exact ⟨by simp [h], rfl⟩
  · have e : decide (48 ≤ c) = false := decide_eq_false h
    have HE := Lib.hid e
    clear e
    go_enter Try.func74, Try.ntmps74
    go_wp2
    go_ret
    exact ⟨by rw [HE.out]; rfl, rfl⟩

set_option maxHeartbeats 1000000 in
theorem named (s : ByteArray) (w : World) : Calls Try.prog 66 #[.string s] w (Says (.bool (nm s)) w) := by
  by_cases h1 : s.size = 0
  · have hn : nm s = false := nm_no (by omega)
    have HN := Lib.hid hn
    clear hn
    go_enter Try.func66, Try.ntmps66
    go_wp2
    go_ret
    exact says_nm HN.out
  · by_cases h2 : 12 < s.size
    · have HN := Lib.hid (show nm s = false from nm_no (by omega))
      have t1 : decide ((s.size : Int) < 1) = false := by simp; omega
      have t2 : decide ((12 : Int) < (s.size : Int)) = true := by simp; omega
      go_enter Try.func66, Try.ntmps66
      go_wp2
      go_ret
      exact says_nm HN.out
    · have t1 : decide ((s.size : Int) < 1) = false := by simp; omega
      have t2 : decide ((12 : Int) < (s.size : Int)) = false := by simp; omega
      have h0 : 0 < s.size := by omega
      have hb0 : (s[0].toNat : Int) = byteOf s 0 := by simp [byteOf, h0]
      have small0 := fun w => smallP (s[0].toNat : Int) w
      rw [hb0] at small0
      have SM := Lib.hid small0
      clear small0
      cases hs : smallB (byteOf s 0) with
      | false =>
        have HN := Lib.hid (show nm s = false from nm_no (by simp [hs]))
        rw [hs] at SM
        go_enter Try.func66, Try.ntmps66
        go_wp2_with (fail)
        with_reducible refine (SM.out _).mono ?_
        rintro e w' ⟨rfl, rfl⟩
        go_wp2
        go_ret
        exact says_nm HN.out
      | true =>
        rw [hs] at SM
        have HS := Lib.hid hs
        clear hs
        go_enter Try.func66, Try.ntmps66
        go_wp2_with (fail)
        with_reducible refine (SM.out _).mono ?_
        rintro e w' ⟨rfl, rfl⟩
        go_wp2
        clear hb0
        go_loopw [3] (fun i W => NmRel s w i W) (fun i _ => s.size - (intOf i).toNat)
        case atStart => exact ⟨1, by omega, by omega, rfl, rfl, fun j _ _ => by omega⟩
        case round =>
          obtain ⟨k, hk1, hk, rfl, rfl, hall⟩ := hrel
          have HA := Lib.hid hall
          clear hall
          by_cases hlt : k < s.size
          · have t3 : decide ((k : Int) < (s.size : Int)) = true := by simp; omega
            have hbk : (s[k].toNat : Int) = byteOf s k := by simp [byteOf, hlt]
            have HB := Lib.hid (show byteOf s k = byteOf s k from rfl)
            obtain ⟨c, hc⟩ : ∃ c, c = byteOf s k := ⟨_, rfl⟩
            rw [← hc] at hbk
            have HC := Lib.hid hc
            clear hc HB
            cases hs1 : smallB c with
            | true =>
              have hsg : signB c = true := by simp [signB, hs1]
              have hc1 := smallP c wr
              rw [hs1] at hc1
              have SC := Lib.hid hc1
              clear hc1 hs1
              have HG := Lib.hid hsg
              clear hsg
              go_wp2_with (fail)
              with_reducible refine SC.out.mono ?_
              rintro e w' ⟨rfl, rfl⟩
              go_wp2
              go_roundw
              case rel => exact ⟨k + 1, by omega, by omega, by go_num, rfl, NmRel.next HA.out (HC.out ▸ HG.out)⟩
              case measure => simp [intOf]; omega
            | false =>
              have hc1 := smallP c wr
              rw [hs1] at hc1
              have SC := Lib.hid hc1
              clear hc1
              cases hs2 : digitB c with
              | true =>
                have HG := Lib.hid (show signB c = true by simp [signB, hs1, hs2])
                have hc2 := digit c wr
                rw [hs2] at hc2
                have SD := Lib.hid hc2
                clear hc2 hs1 hs2
                go_wp2_with (fail)
                with_reducible refine SC.out.mono ?_
                rintro e w' ⟨rfl, rfl⟩
                go_wp2_with (fail)
                with_reducible refine SD.out.mono ?_
                rintro e w' ⟨rfl, rfl⟩
                go_wp2
                go_roundw
                case rel => exact ⟨k + 1, by omega, by omega, by go_num, rfl, NmRel.next HA.out (HC.out ▸ HG.out)⟩
                case measure => simp [intOf]; omega
              | false =>
                have hc2 := digit c wr
                rw [hs2] at hc2
                have SD := Lib.hid hc2
                clear hc2
                by_cases h95 : c = 95
                · have HG := Lib.hid (show signB c = true by simp [signB, h95])
                  clear hs1 hs2
                  subst h95
                  go_wp2_with (fail)
                  with_reducible refine SC.out.mono ?_
                  rintro e w' ⟨rfl, rfl⟩
                  go_wp2_with (fail)
                  with_reducible refine SD.out.mono ?_
                  rintro e w' ⟨rfl, rfl⟩
                  go_wp2
                  go_roundw
                  case rel => exact ⟨k + 1, by omega, by omega, by go_num, rfl, NmRel.next HA.out (HC.out ▸ HG.out)⟩
                  case measure => simp [intOf]; omega
                · have HN := Lib.hid (show nm s = false from nm_no (fun h => by
                    have := h.2.2.2 k hk1 hlt
                    rw [← HC.out] at this
                    simp [signB, hs1, hs2, h95] at this))
                  clear hs1 hs2
                  have t4 : (c == 95) = false := by simp [h95]
                  go_wp2_with (fail)
                  with_reducible refine SC.out.mono ?_
                  rintro e w' ⟨rfl, rfl⟩
                  go_wp2_with (fail)
                  with_reducible refine SD.out.mono ?_
                  rintro e w' ⟨rfl, rfl⟩
                  go_wp2
                  go_ret
                  exact says_nm HN.out
          · have t3 : decide ((k : Int) < (s.size : Int)) = false := by simp; omega
            have t3' : decide (k < s.size) = false := by simp; omega
            have HN := Lib.hid (show nm s = true from (nm_iff s).2 ⟨by omega, by omega, HS.out, fun i h1 h2 => HA.out i h1 (by omega)⟩)
            go_wp2
            go_ret
            exact says_nm HN.out
end Go.Proofs.Ytklnokhabomnfaa
