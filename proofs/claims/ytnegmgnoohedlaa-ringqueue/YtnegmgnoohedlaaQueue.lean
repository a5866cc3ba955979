/- The walk of the statement on what is put into a ring with room, and taken in order. -/
import Derived.Test.YtnegmgnoohedlaaHas
namespace Go.Proofs.Ytnegmgnoohedlaa.Queue
open Go.RowKit

def PutRel (l : List ByteArray) (w : World) (p g : Nat) (i : Value) (W : World) : Prop := ∃ k : Nat, k ≤ l.length ∧ i = .int .i64 (k : Int) ∧ SHas w p g l.length (l.take k) W
def TakeRel (l : List ByteArray) (w : World) (p g : Nat) (i : Value) (W : World) : Prop := ∃ k : Nat, k ≤ l.length ∧ i = .int .i64 (k : Int) ∧ SHas w p g l.length (l.drop k) W

set_option maxHeartbeats 1000000 in
theorem other (a : Option Addr) (len cap : Nat) (s : ByteArray) (w : World) (hm : len ≤ maxLen) (h : len = 0 ∨ 500 < len) : Calls Try.prog 6 #[.slice a len cap, .string s] w (Woke w) := by
  unfold maxLen at hm
  rcases h with rfl | h
  · go_enter Try.func6, Try.ntmps6
    go_wp2_with (fail)
    refine (awake _).mono ?_
    rintro e w1 ⟨rfl, hb⟩
    go_wp2_with (fail)
    refine (awake _).mono ?_
    rintro e w2 ⟨rfl, hb2⟩
    go_wp2
    go_ret
    exact ⟨rfl, hb.trans (hb2.mono hb.size)⟩
  · have t0 : ((len : Int) == 0) = false := by rw [beq_eq_false_iff_ne]; omega
    have t1 : decide ((500 : Int) < (len : Int)) = true := by simp; omega
    go_enter Try.func6, Try.ntmps6
    go_wp2_with (fail)
    refine (awake _).mono ?_
    rintro e w1 ⟨rfl, hb⟩
    go_wp2_with (fail)
    refine (awake _).mono ?_
    rintro e w2 ⟨rfl, hb2⟩
    go_wp2
    go_ret
    exact ⟨rfl, hb.trans (hb2.mono hb.size)⟩

theorem size_is {p g n f : Nat} {xs : List ByteArray} {w : World} (m : Int) (hm : (xs.length : Int) = m) (h : S.Is w p g n f xs) :
    Calls Try.prog 19 #[.pointer (some ⟨p, 0, none⟩)] w (Says (.int .i64 m) w) := by
  rw [← hm]; exact S.size h

set_option maxHeartbeats 1000000 in
theorem core (a : Option Addr) (cap : Nat) (l : List ByteArray) (s : ByteArray) (w : World) (h0 : 0 < l.length) (hl : l.length ≤ 500) (hr : Reads Value.string w a l) :
    Calls Try.prog 6 #[.slice a l.length cap, .string s] w (Woke w) := by
  have t0 : ((l.length : Int) == 0) = false := by rw [beq_eq_false_iff_ne]; omega
  have t1 : decide ((500 : Int) < (l.length : Int)) = false := by simp; omega
  have HR := Lib.hid hr
  clear hr
  go_enter Try.func6, Try.ntmps6
  go_wp2_with (fail)
  refine (awake _).mono ?_
  rintro e w1 ⟨rfl, hb⟩
  go_wp2_with (fail)
  refine (S.new l.length _ (by omega) (by omega)).mono ?_
  rintro e w2 ⟨p, g, rfl, hp, hg, hring, hb2⟩
  have hb' := hb.trans (hb2.mono hb.size)
  have H2 := Lib.hid (Has.new (Nat.le_trans hb.size hp) (Nat.le_trans hb.size hg) hring hb')
  clear hring hp hg hb hb2 hb'
  go_wp2
  go_loopw [7] (fun i W => PutRel l w p g i W) (fun i _ => l.length - (intOf i).toNat)
  case atStart => exact ⟨0, by omega, rfl, H2.out⟩
  case round =>
    obtain ⟨k, hk, rfl, hh⟩ := hrel
    have H3 := Lib.hid hh
    clear hh
    by_cases hlt : k < l.length
    · have t2 : decide ((k : Int) < (l.length : Int)) = true := by simp; omega
      obtain ⟨b2, off, rfl, _, hc⟩ := (HR.out.below (Nat.le_refl _) H3.out.below) (by omega)
      have hx : l[k]? = some l[k] := by simp
      have ck := hc k _ hx
      clear hc
      have hnext : l.take k ++ [l[k]] = l.take (k + 1) := by rw [List.take_add_one, hx]; simp
      have HN := Lib.hid hnext
      clear hnext hx
      generalize l[k] = x at ck HN
      have hlen : (l.take k).length < l.length := by simp; omega
      obtain ⟨f, hring⟩ := H3.out.ring
      have HRg := Lib.hid hring
      clear hring
      go_wp2_with (fail)
      with_reducible refine (S.put x hlen HRg.out).mono ?_
      rintro e w4 ⟨rfl, hr4, ht4⟩
      have H4 := Lib.hid ((H3.out.turn ⟨f, hr4⟩ ht4).eq HN.out)
      clear hr4 ht4
      go_wp2
      go_roundw
      case rel => exact ⟨k + 1, by omega, by go_num, H4.out⟩
      case measure => simp [intOf]; omega
    · have t2 : decide ((k : Int) < (l.length : Int)) = false := by simp; omega
      have t2' : decide (k < l.length) = false := by simp; omega
      have H4 := Lib.hid (H3.out.eq (show l.take k = l from List.take_of_length_le (by omega)))
      clear H3
      obtain ⟨f, hring⟩ := H4.out.ring
      have HRg := Lib.hid hring
      clear hring
      go_wp2_with (fail)
      with_reducible refine (S.put_full s rfl HRg.out).mono ?_
      rintro e w5 ⟨rfl, m, rfl⟩
      go_wp2_with (fail)
      with_reducible refine (S.size (HRg.out.drewN _)).mono ?_
      rintro e w' ⟨rfl, rfl⟩
      go_wp2
      go_loopw [8] (fun i W => TakeRel l w p g i W) (fun i _ => l.length - (intOf i).toNat)
      case atStart => exact ⟨0, by omega, rfl, H4.out.drewN _⟩
      case round =>
        obtain ⟨i, hi, rfl, hh⟩ := hrel
        have H6 := Lib.hid hh
        clear hh
        by_cases hin : i < l.length
        · have t3 : decide ((i : Int) < (l.length : Int)) = true := by simp; omega
          have H7 := Lib.hid (H6.out.eq (List.drop_eq_getElem_cons hin))
          obtain ⟨f7, hring⟩ := H7.out.ring
          have HR7 := Lib.hid hring
          clear hring
          go_wp2_with (fail)
          with_reducible refine (S.take HR7.out).mono ?_
          rintro e w8 ⟨rfl, hr8, ht8⟩
          have H8 := Lib.hid (H7.out.turn hr8 ht8)
          clear hr8 ht8
          obtain ⟨b2, off, rfl, _, hc⟩ := (HR.out.below (Nat.le_refl _) H8.out.below) (by omega)
          have hx : l[i]? = some l[i] := by simp
          have ck := hc i _ hx
          clear hc hx
          go_wp2
          go_roundw
          case rel => exact ⟨i + 1, by omega, by go_num, H8.out⟩
          case measure => simp [intOf]; omega
        · have t3 : decide ((i : Int) < (l.length : Int)) = false := by simp; omega
          have t3' : decide (i < l.length) = false := by simp; omega
          have H7 := Lib.hid (H6.out.eq (show l.drop i = [] from List.drop_of_length_le (by omega)))
          obtain ⟨f7, hring⟩ := H7.out.ring
          have HR7 := Lib.hid hring
          clear hring
          go_wp2_with (fail)
          with_reducible refine (S.take_none HR7.out).mono ?_
          rintro e w' ⟨rfl, rfl⟩
          go_wp2_with (fail)
          with_reducible refine (S.put s (by simpa using h0) HR7.out).mono ?_
          rintro e w9 ⟨rfl, hr9, ht9⟩
          have H9 := Lib.hid (H7.out.turn ⟨f7, hr9⟩ ht9)
          clear hr9 ht9
          go_wp2
          go_ret
          exact ⟨rfl, H9.out.below⟩
end Go.Proofs.Ytnegmgnoohedlaa.Queue
