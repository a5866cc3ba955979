/- The walk of the statement on texts that are pushed: the last ones, as many as there are places. -/
import Derived.Test.YtnegmgnoohedlaaHas
import Derived.Laws.OwnMore
import Derived.IntWalk
namespace Go.Proofs.Ytnegmgnoohedlaa.Last
open Go.RowKit

/-- The last n of the first k. -/
def last (l : List ByteArray) (n k : Nat) : List ByteArray := (l.take k).drop (k - n)
theorem last_room {l : List ByteArray} {n k : Nat} (hk : k < l.length) (hn : k < n) : (last l n k).length < n ∧ last l n k ++ [l[k]] = last l n (k + 1) := by
  unfold last
  rw [show k - n = 0 by omega, show k + 1 - n = 0 by omega, List.drop_zero, List.drop_zero]
  refine ⟨by rw [List.length_take]; omega, ?_⟩
  rw [List.take_add_one, List.getElem?_eq_getElem hk]; rfl
theorem last_full {l : List ByteArray} {n k : Nat} (hk : k < l.length) (hn : n ≤ k) (h1 : 1 ≤ n) :
    ∃ x xs, last l n k = x :: xs ∧ xs.length + 1 = n ∧ xs ++ [l[k]] = last l n (k + 1) := by
  unfold last
  have h : k - n < (l.take k).length := by rw [List.length_take]; omega
  refine ⟨_, _, List.drop_eq_getElem_cons h, by rw [List.length_drop, List.length_take]; omega, ?_⟩
  rw [show k + 1 - n = k - n + 1 by omega, List.take_add_one, List.getElem?_eq_getElem hk, List.drop_append]
  have : k - n + 1 - (l.take k).length = 0 := by rw [List.length_take]; omega
  rw [this]; rfl
theorem last_all {l : List ByteArray} {n : Nat} : last l n l.length = l.drop (l.length - n) := by unfold last; rw [List.take_length]

def PushRel (l : List ByteArray) (w : World) (p g n : Nat) (c i : Value) (W : World) : Prop :=
  ∃ k : Nat, k ≤ l.length ∧ i = .int .i64 (k : Int) ∧ c = .int .i64 ((k - n : Nat) : Int) ∧ SHas w p g n (last l n k) W
def SeeRel (m : Nat) (w : World) (i : Value) (W : World) : Prop := ∃ k q : Nat, k ≤ m ∧ i = .int .i64 (k : Int) ∧ W = w.drewN q

set_option maxHeartbeats 1000000 in
theorem big (c : Int) (a : Option Addr) (len cap : Nat) (w : World) (hm : len ≤ maxLen) (h : 500 < len) : Calls Try.prog 4 #[.int .u8 c, .slice a len cap] w (Woke w) := by
  unfold maxLen at hm
  have t1 : decide ((500 : Int) < (len : Int)) = true := by simp; omega
  go_enter Try.func4, Try.ntmps4
  go_wp2_with (fail)
  refine (awake _).mono ?_
  rintro e w1 ⟨rfl, hb⟩
  go_wp2_with (fail)
  refine (awake _).mono ?_
  rintro e w2 ⟨rfl, hb2⟩
  go_wp2
  go_ret
  exact ⟨rfl, hb.trans (hb2.mono hb.size)⟩

theorem byte_of {a : Int} (h : (Lit.int .u8 a).wf = true) : 0 ≤ a ∧ a ≤ 255 := by
  have h' : IntKind.u8.min ≤ a ∧ a ≤ IntKind.u8.max := by simpa [Lit.wf] using h
  have e1 : IntKind.u8.min = 0 := rfl
  have e2 : IntKind.u8.max = 255 := rfl
  omega
set_option maxRecDepth 100000 in
set_option maxHeartbeats 2000000 in
theorem core (c : Int) (a : Option Addr) (cap : Nat) (l : List ByteArray) (w : World) (c0 : 0 ≤ c) (c1 : c ≤ 255) (hl : l.length ≤ 500) (hr : Reads Value.string w a l) :
    Calls Try.prog 4 #[.int .u8 c, .slice a l.length cap] w (Woke w) := by
  have t1 : decide ((500 : Int) < (l.length : Int)) = false := by simp; omega
  have HR := Lib.hid hr
  clear hr
  go_enter Try.func4, Try.ntmps4
  go_wp2_with (fail)
  refine (awake _).mono ?_
  rintro e w1 ⟨rfl, hb⟩
  go_wp2_with (fail)
  obtain ⟨n, hn⟩ := Int.eq_ofNat_of_zero_le (show 0 ≤ 1 + c by omega)
  have n1 : 1 ≤ n := by omega
  have n2 : n ≤ 256 := by omega
  rw [hn]
  clear hn
  refine (S.new n _ n1 (by omega)).mono ?_
  rintro e w2 ⟨p, g, rfl, hp, hg, hring, hb2⟩
  have hb' := hb.trans (hb2.mono hb.size)
  have H2 := Lib.hid (Has.new (Nat.le_trans hb.size hp) (Nat.le_trans hb.size hg) hring hb')
  clear hring hp hg hb hb2 hb'
  go_wp2
  go_loopw [8, 9] (fun c i W => PushRel l w p g n c i W) (fun _ i _ => l.length - (intOf i).toNat)
  case atStart => exact ⟨0, by omega, rfl, by simp, H2.out.eq (by simp [last])⟩
  case round =>
    obtain ⟨k, hk, rfl, rfl, hh⟩ := hrel
    have H3 := Lib.hid hh
    clear hh
    by_cases hlt : k < l.length
    · have t2 : decide ((k : Int) < (l.length : Int)) = true := by simp; omega
      obtain ⟨b2, off, rfl, _, hc⟩ := (HR.out.below (Nat.le_refl _) H3.out.below) (by omega)
      have hx : l[k]? = some l[k] := by simp
      have ck := hc k _ hx
      clear hc hx
      by_cases hkn : k < n
      · obtain ⟨hlen, hnext⟩ := last_room hlt hkn
        have HN := Lib.hid hnext
        clear hnext
        generalize l[k] = x at ck HN
        obtain ⟨f, hring⟩ := H3.out.ring
        have HRg := Lib.hid hring
        clear hring
        go_wp2_with (fail)
        with_reducible refine (S.push_room x hlen HRg.out).mono ?_
        rintro e w4 ⟨rfl, hr4, ht4⟩
        have H4 := Lib.hid ((H3.out.turn hr4 ht4).eq HN.out)
        clear hr4 ht4
        go_wp2
        go_roundw
        case rel => exact ⟨k + 1, by omega, by go_num, by rw [show k - n = 0 by omega, show k + 1 - n = 0 by omega], H4.out⟩
        case measure => simp [intOf]; omega
      · obtain ⟨x0, xs, he, hlen, hnext⟩ := last_full hlt (show n ≤ k by omega) n1
        have H3' := Lib.hid (H3.out.eq he)
        have HL := Lib.hid hlen
        clear he hlen H3
        have HN := Lib.hid hnext
        clear hnext
        generalize l[k] = x at ck HN
        obtain ⟨f, hring⟩ := H3'.out.ring
        have HRg := Lib.hid hring
        clear hring
        go_wp2_with (fail)
        with_reducible refine (S.push_full x HL.out HRg.out).mono ?_
        rintro e w4 ⟨rfl, hr4, ht4⟩
        have H4 := Lib.hid ((H3'.out.turn hr4 ht4).eq HN.out)
        clear hr4 ht4
        go_wp2
        go_roundw
        case rel => exact ⟨k + 1, by omega, by go_num, by congr 1; omega, H4.out⟩
        case measure => simp [intOf]; omega
    · have t2 : decide ((k : Int) < (l.length : Int)) = false := by simp; omega
      have t2' : decide (k < l.length) = false := by simp; omega
      obtain rfl : k = l.length := by omega
      have H4 := Lib.hid (H3.out.eq last_all)
      clear H3
      obtain ⟨f, hring⟩ := H4.out.ring
      have HRg := Lib.hid hring
      clear hring
      by_cases hgt : n < l.length
      · have t3 : decide ((n : Int) < (l.length : Int)) = true := by simp; omega
        have t3' : decide (n < l.length) = true := by simp; omega
        go_wp2_with (fail)
        with_reducible refine (S.all HRg.out).mono ?_
        rintro e w5 ⟨b, c5, rfl, ho, hb5⟩
        have hll : (l.drop (l.length - n)).length = n := by rw [List.length_drop]; omega
        rw [hll] at ho
        rw [hll]
        clear hll
        have H5 := Lib.hid (H4.out.more hb5)
        have HO := Lib.hid ho
        clear ho hb5
        have t4 : (((l.length - n : Nat) : Int) != ((l.length : Int) - (n : Int))) = false := by rw [bne_eq_false_iff_eq]; omega
        have t5 : (((n : Nat) : Int) != ((l.length : Int) - ((l.length : Int) - (n : Int)))) = false := by rw [bne_eq_false_iff_eq]; omega
        go_wp2
        go_loopw [12] (fun i W => SeeRel n w5 i W) (fun i _ => n - (intOf i).toNat)
        case atStart => exact ⟨0, 0, by omega, rfl, rfl⟩
        case round =>
          obtain ⟨i, q, hi, rfl, rfl⟩ := hrel
          by_cases hin : i < n
          · have t6 : decide ((i : Int) < ((n : Nat) : Int)) = true := by simp; omega
            obtain ⟨b2, off, rfl, _, hc⟩ := (HR.out.below (Nat.le_refl _) H5.out.below) (by omega)
            have hx : l[l.length - n + i]? = some l[l.length - n + i] := by simp
            have ck := hc _ _ hx
            clear hc
            have co := HO.out.cellAt i (by omega)
            have hx' : ((l.drop (l.length - n)).map Value.string)[i]? = some (Value.string l[l.length - n + i]) := by
              rw [List.getElem?_map, List.getElem?_drop, hx]; rfl
            rw [hx'] at co
            clear hx hx'
            generalize l[l.length - n + i] = x at ck co
            have z1 : IntKind.i64.wrap ((l.length : Int) - (n : Int) + (i : Int)) = (l.length : Int) - (n : Int) + (i : Int) := IntWalk.i64_in _ (by omega)
            have z2 : ((l.length : Int) - (n : Int) + (i : Int)).toNat = l.length - n + i := by omega
            have z3 : 0 ≤ (l.length : Int) - (n : Int) + (i : Int) := by omega
            have z4 : (l.length : Int) - (n : Int) + (i : Int) < (l.length : Int) := by omega
            go_wp2
            go_quiet (fail)
            go_wp2
            go_roundw
            case rel => exact ⟨i + 1, _, by omega, by go_num, rfl⟩
            case measure => simp [intOf]; omega
          · have t6 : decide ((i : Int) < ((n : Nat) : Int)) = false := by simp; omega
            have t6' : decide (i < n) = false := by simp; omega
            go_wp2
            go_ret
            exact ⟨rfl, below_drewN H5.out.below _⟩
      · have t3 : decide ((n : Int) < (l.length : Int)) = false := by simp; omega
        have t3' : decide (n < l.length) = false := by simp; omega
        go_wp2_with (fail)
        with_reducible refine (S.all HRg.out).mono ?_
        rintro e w5 ⟨b, c5, rfl, ho, hb5⟩
        have hll : (l.drop (l.length - n)).length = l.length := by rw [List.length_drop]; omega
        rw [hll] at ho
        rw [hll]
        clear hll
        have H5 := Lib.hid (H4.out.more hb5)
        have HO := Lib.hid ho
        clear ho hb5
        have t4 : (((l.length - n : Nat) : Int) != 0) = false := by rw [bne_eq_false_iff_eq]; omega
        have t5 : (((l.length : Nat) : Int) != ((l.length : Int))) = false := by rw [bne_eq_false_iff_eq]
        go_wp2
        go_loopw [12] (fun i W => SeeRel l.length w5 i W) (fun i _ => l.length - (intOf i).toNat)
        case atStart => exact ⟨0, 0, by omega, rfl, rfl⟩
        case round =>
          obtain ⟨i, q, hi, rfl, rfl⟩ := hrel
          by_cases hin : i < l.length
          · have t6 : decide ((i : Int) < ((l.length : Nat) : Int)) = true := by simp; omega
            obtain ⟨b2, off, rfl, _, hc⟩ := (HR.out.below (Nat.le_refl _) H5.out.below) (by omega)
            have hx : l[l.length - n + i]? = some l[l.length - n + i] := by simp
            have ck := hc _ _ hx
            clear hc
            have co := HO.out.cellAt i (by omega)
            have hx' : ((l.drop (l.length - n)).map Value.string)[i]? = some (Value.string l[l.length - n + i]) := by
              rw [List.getElem?_map, List.getElem?_drop, hx]; rfl
            rw [hx'] at co
            clear hx hx'
            generalize l[l.length - n + i] = x at ck co
            rw [show l.length - n + i = i by omega] at ck
            go_wp2
            go_quiet (fail)
            go_wp2
            go_roundw
            case rel => exact ⟨i + 1, _, by omega, by go_num, rfl⟩
            case measure => simp [intOf]; omega
          · have t6 : decide ((i : Int) < ((l.length : Nat) : Int)) = false := by simp; omega
            have t6' : decide (i < l.length) = false := by simp; omega
            go_wp2
            go_ret
            exact ⟨rfl, below_drewN H5.out.below _⟩
end Go.Proofs.Ytnegmgnoohedlaa.Last
