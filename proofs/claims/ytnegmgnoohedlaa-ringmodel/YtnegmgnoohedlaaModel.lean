/- The walk of the statement on whatever acts, one behind the other, held against a list. -/
import Derived.Test.YtnegmgnoohedlaaMid
namespace Go.Proofs.Ytnegmgnoohedlaa.Model
open Go.RowKit

def Rel (w : World) (p g n N : Nat) (m i : Value) (W : World) : Prop :=
  ∃ (k cap : Nat) (A : Option Addr) (xs : List Int), k ≤ N ∧ xs.length ≤ k ∧ i = .int .i64 (k : Int) ∧ m = .slice A xs.length cap ∧ IHas w p g n xs W ∧ Mid w p g W A cap xs

set_option maxHeartbeats 1000000 in
theorem big (c : Int) (a : Option Addr) (len cap : Nat) (w : World) (hm : len ≤ maxLen) (h : 500 < len) : Calls Try.prog 3 #[.int .i64 c, .slice a len cap] w (Woke w) := by
  unfold maxLen at hm
  have t1 : decide ((500 : Int) < (len : Int)) = true := by simp; omega
  go_enter Try.func3, Try.ntmps3
  go_wp2_with (fail)
  refine (awake _).mono ?_
  rintro e w1 ⟨rfl, hb⟩
  go_wp2_with (fail)
  refine (awake _).mono ?_
  rintro e w2 ⟨rfl, hb2⟩
  go_wp2
  go_ret
  exact ⟨rfl, hb.trans (hb2.mono hb.size)⟩

set_option maxHeartbeats 1000000 in
theorem out (c : Int) (a : Option Addr) (len cap : Nat) (w : World) (h : len ≤ 500) (hc : c < 1 ∨ 4096 < c) : Calls Try.prog 3 #[.int .i64 c, .slice a len cap] w (Woke w) := by
  have t1 : decide ((500 : Int) < (len : Int)) = false := by simp; omega
  have HC := Lib.hid hc
  rcases hc with hc | hc
  · have t2 : decide (c < 1) = true := by simp; omega
    go_enter Try.func3, Try.ntmps3
    go_wp2_with (fail)
    refine (awake _).mono ?_
    rintro e w1 ⟨rfl, hb⟩
    go_wp2_with (fail)
    refine (I.new_no c _ HC.out).mono ?_
    rintro e w' ⟨rfl, rfl⟩
    go_wp2
    go_ret
    exact ⟨rfl, hb⟩
  · have t2 : decide (c < 1) = false := by simp; omega
    have t3 : decide (4096 < c) = true := by simp; omega
    go_enter Try.func3, Try.ntmps3
    go_wp2_with (fail)
    refine (awake _).mono ?_
    rintro e w1 ⟨rfl, hb⟩
    go_wp2_with (fail)
    refine (I.new_no c _ HC.out).mono ?_
    rintro e w' ⟨rfl, rfl⟩
    go_wp2
    go_ret
    exact ⟨rfl, hb⟩

theorem same_is {p g n f N : Nat} {xs : List Int} {a : Option Addr} (cap : Nat) {w : World} (hN : xs.length = N) (h : I.Is w p g n f xs) (hr : Reads (Value.int .i64) w a xs) :
    Calls Try.prog 13 #[.pointer (some ⟨p, 0, none⟩), .slice a N cap] w (Woke w) := by
  subst hN; exact same cap h hr

set_option maxRecDepth 100000 in
set_option maxHeartbeats 4000000 in
theorem core (n : Nat) (a : Option Addr) (cap : Nat) (l : List (Int × Int)) (w : World) (n1 : 1 ≤ n) (n2 : n ≤ 4096) (hl : l.length ≤ 500) (hr : Pairs w a l) :
    Calls Try.prog 3 #[.int .i64 (n : Int), .slice a l.length cap] w (Woke w) := by
  have t1 : decide ((500 : Int) < (l.length : Int)) = false := by simp; omega
  have t2 : decide ((n : Int) < 1) = false := by simp; omega
  have t3 : decide ((4096 : Int) < (n : Int)) = false := by simp; omega
  have HR := Lib.hid hr
  clear hr
  go_enter Try.func3, Try.ntmps3
  go_wp2_with (fail)
  refine (awake _).mono ?_
  rintro e w1 ⟨rfl, hb⟩
  go_wp2_with (fail)
  refine (I.new n _ n1 n2).mono ?_
  rintro e w2 ⟨p, g, rfl, hp, hg, hring, hb2⟩
  have hb' := hb.trans (hb2.mono hb.size)
  have H2 := Lib.hid (Has.new (Nat.le_trans hb.size hp) (Nat.le_trans hb.size hg) hring hb')
  clear hring hp hg hb hb2 hb'
  go_wp2
  go_loopw [7, 8] (fun m i W => Rel w p g n l.length m i W) (fun _ i _ => l.length - (intOf i).toNat)
  case atStart => exact ⟨0, 0, none, [], by omega, by simp, rfl, rfl, H2.out, Mid.nil _ _ _ _⟩
  case round =>
    obtain ⟨k, mc, A, xs, hk, hxk, rfl, rfl, hh, hmid⟩ := hrel
    have H3 := Lib.hid hh
    have HM := Lib.hid hmid
    clear hh hmid
    by_cases hlt : k < l.length
    · have t4 : decide ((k : Int) < (l.length : Int)) = true := by simp; omega
      obtain ⟨b2, off, rfl, hb2, hc⟩ := HR.out (by omega)
      have hx : l[k]? = some l[k] := by simp
      obtain ⟨cdw, cxw⟩ := hc k _ hx
      clear hc hx
      generalize l[k] = u at cdw cxw
      obtain ⟨d, x⟩ := u
      simp only at cdw cxw
      have cd := (H3.out.below.cell (p := ⟨b2, off + k * 2, none⟩) hb2).trans cdw
      have CX : Hid (∀ W : World, Below w.heap.size w W → W.cell? ⟨b2, off + k * 2 + 1, none⟩ = some (.int .i64 x)) := fun W hW => (hW.cell (p := ⟨b2, off + k * 2 + 1, none⟩) hb2).trans cxw
      have CD : Hid (∀ W : World, Below w.heap.size w W → W.cell? ⟨b2, off + k * 2, none⟩ = some (.int .i64 d)) := fun W hW => (hW.cell (p := ⟨b2, off + k * 2, none⟩) hb2).trans cdw
      have cx := CX.out _ H3.out.below
      clear cdw cxw
      obtain ⟨f, hring⟩ := H3.out.ring
      have hxn := hring.len
      have lp := hring.ltp
      have lg := hring.ltg
      have HRg := Lib.hid hring
      clear hring
      have hsz := H3.out.below.size
      by_cases hfull : xs.length = n
      · have t5 : ((xs.length : Int) == (n : Int)) = true := by rw [beq_iff_eq]; omega
        by_cases hd : d = 0
        · subst hd
          have HF := Lib.hid hfull
          clear hfull
          go_wp2_with (fail)
          with_reducible refine (I.put_full x HF.out HRg.out).mono ?_
          rintro e w4 ⟨rfl, m4, rfl⟩
          have H4 := Lib.hid (H3.out.drewN m4)
          have HM4 := Lib.hid (HM.out.drewN m4)
          obtain ⟨f4, hr4⟩ := H4.out.ring
          have HR4 := Lib.hid hr4
          clear hr4
          go_wp2_with (fail)
          with_reducible refine (same_is mc (by simp) HR4.out HM4.out.reads).mono ?_
          rintro e w9 ⟨rfl, hb9⟩
          have H9 := Lib.hid (H4.out.more hb9)
          have HM9 := Lib.hid (HM4.out.below hb9)
          clear hb9
          go_wp2
          go_roundw
          case rel => exact ⟨k + 1, mc, A, xs, by omega, by omega, by go_num, by simp, H9.out, HM9.out⟩
          case measure => simp [intOf]; omega
        · by_cases hd1 : d = 1
          · subst hd1
            cases xs with
            | nil => simp at hfull; omega
            | cons x0 xs =>
              have HF := Lib.hid (show xs.length + 1 = n by simpa using hfull)
              simp only [List.length_cons] at hxk hxn hfull
              have t5' : ((xs.length : Int) + 1 == (n : Int)) = true := by rw [beq_iff_eq]; omega
              clear t5 hfull
              go_wp2_with (fail)
              with_reducible refine (I.push_full x HF.out HRg.out).mono ?_
              rintro e w4 ⟨rfl, hr4, ht4⟩
              have H4 := Lib.hid (H3.out.turn hr4 ht4)
              have HM4 := Lib.hid (HM.out.turns ht4)
              have cx4 := CX.out _ H4.out.below
              have cd4 := CD.out _ H4.out.below
              obtain ⟨f4, hr4⟩ := hr4
              have lp4 := hr4.ltp
              have lg4 := hr4.ltg
              have HR4 := Lib.hid hr4
              have hs4 := H4.out.below.size
              clear hr4 ht4
              go_wp2_with (at_builtin; first
               | (refine append_mid (w0 := w) (p := p) (g := g) (W := w4) rfl _ _ rfl x rfl rfl HM4.out lp4 lg4 hs4 (by simp; omega) ?_
                  intro b5 o5 c5 w5 hm5 hsp5
                  have hc5 : c5 ≠ 1 := by have := hm5.fits; simp at this; omega
                  have H5 := Lib.hid (hsp5.has H4.out)
                  have HM5 := Lib.hid hm5
                  obtain ⟨f5, hr5⟩ := H5.out.ring
                  have HR5 := Lib.hid hr5
                  clear hm5 hsp5 hr5))
              have HM6 := Lib.hid (show Mid w p g w5 (some ⟨b5, o5 + 1, none⟩) (c5 - 1) (xs ++ [x]) from HM5.out.cut1 hc5)
              with_reducible refine (same_is (c5 - 1) (by simp) HR5.out HM6.out.reads).mono ?_
              rintro e w9 ⟨rfl, hb9⟩
              have H9 := Lib.hid (H5.out.more hb9)
              have HM9 := Lib.hid (HM6.out.below hb9)
              clear hb9
              go_wp2
              go_roundw
              case rel => exact ⟨k + 1, (c5 - 1), some ⟨b5, o5 + 1, none⟩, xs ++ [x], by omega, by simp; omega, by go_num, by simp, H9.out, HM9.out⟩
              case measure => simp [intOf]; omega
          · have t6 : (d == 0) = false := by rw [beq_eq_false_iff_ne]; omega
            have t7 : (d == 1) = false := by rw [beq_eq_false_iff_ne]; omega
            cases xs with
            | nil =>
              simp at hfull; omega
            | cons x0 xs =>
              simp only [List.length_cons] at hxk hxn hfull
              have t5' : ((xs.length : Int) + 1 == (n : Int)) = true := by rw [beq_iff_eq]; omega
              clear t5 hfull
              obtain ⟨b3, off3, rfl, _, hc3⟩ := HM.out.reads (by simp)
              clear hc3
              have hfit := HM.out.fits
              rw [List.length_cons] at hfit
              by_cases hmc : mc = 1
              · subst hmc
                obtain rfl : xs = [] := List.eq_nil_of_length_eq_zero (by omega)
                go_wp2_with (fail)
                with_reducible refine (I.take HRg.out).mono ?_
                rintro e w4 ⟨rfl, hr4, ht4⟩
                have H4 := Lib.hid (H3.out.turn hr4 ht4)
                have HM4 := Lib.hid (HM.out.turns ht4)
                have cx4 := CX.out _ H4.out.below
                have cd4 := CD.out _ H4.out.below
                obtain ⟨f4, hr4⟩ := hr4
                have lp4 := hr4.ltp
                have lg4 := hr4.ltg
                have HR4 := Lib.hid hr4
                have hs4 := H4.out.below.size
                clear hr4 ht4
                have c3 : w4.cell? ⟨b3, off3, none⟩ = some (.int .i64 x0) := by
                  obtain ⟨b4, off4, e4, _, hc4⟩ := HM4.out.reads (by simp)
                  have := hc4 0 x0 rfl
                  cases e4
                  simpa using this
                go_wp2_with (fail)
                have HM6 := Lib.hid HM4.out.cut0
                with_reducible refine (same_is 0 (by simp) HR4.out HM6.out.reads).mono ?_
                rintro e w9 ⟨rfl, hb9⟩
                have H9 := Lib.hid (H4.out.more hb9)
                have HM9 := Lib.hid (HM6.out.below hb9)
                clear hb9
                go_wp2
                go_roundw
                case rel => exact ⟨k + 1, 0, some ⟨b3, off3, none⟩, [], by omega, by simp, by go_num, by simp, H9.out, HM9.out⟩
                case measure => simp [intOf]; omega
              · go_wp2_with (fail)
                with_reducible refine (I.take HRg.out).mono ?_
                rintro e w4 ⟨rfl, hr4, ht4⟩
                have H4 := Lib.hid (H3.out.turn hr4 ht4)
                have HM4 := Lib.hid (HM.out.turns ht4)
                have cx4 := CX.out _ H4.out.below
                have cd4 := CD.out _ H4.out.below
                obtain ⟨f4, hr4⟩ := hr4
                have lp4 := hr4.ltp
                have lg4 := hr4.ltg
                have HR4 := Lib.hid hr4
                have hs4 := H4.out.below.size
                clear hr4 ht4
                have c3 : w4.cell? ⟨b3, off3, none⟩ = some (.int .i64 x0) := by
                  obtain ⟨b4, off4, e4, _, hc4⟩ := HM4.out.reads (by simp)
                  have := hc4 0 x0 rfl
                  cases e4
                  simpa using this
                go_wp2_with (fail)
                have HM6 := Lib.hid (HM4.out.cut1 hmc)
                with_reducible refine (same_is (mc - 1) (by simp) HR4.out HM6.out.reads).mono ?_
                rintro e w9 ⟨rfl, hb9⟩
                have H9 := Lib.hid (H4.out.more hb9)
                have HM9 := Lib.hid (HM6.out.below hb9)
                clear hb9
                go_wp2
                go_roundw
                case rel => exact ⟨k + 1, (mc - 1), some ⟨b3, off3 + 1, none⟩, xs, by omega, by omega, by go_num, by simp, H9.out, HM9.out⟩
                case measure => simp [intOf]; omega
      · have t5 : ((xs.length : Int) == (n : Int)) = false := by rw [beq_eq_false_iff_ne]; omega
        by_cases hd : d = 0
        · subst hd
          go_wp2_with (fail)
          with_reducible refine (I.put x (by omega) HRg.out).mono ?_
          rintro e w4 ⟨rfl, hr4', ht4⟩
          have hr4 : ∃ f, I.Is w4 p g n f (xs ++ [x]) := ⟨f, hr4'⟩
          clear hr4'
          have H4 := Lib.hid (H3.out.turn hr4 ht4)
          have HM4 := Lib.hid (HM.out.turns ht4)
          have cx4 := CX.out _ H4.out.below
          have cd4 := CD.out _ H4.out.below
          obtain ⟨f4, hr4⟩ := hr4
          have lp4 := hr4.ltp
          have lg4 := hr4.ltg
          have HR4 := Lib.hid hr4
          have hs4 := H4.out.below.size
          clear hr4 ht4
          go_wp2_with (at_builtin; first
           | (refine append_mid (w0 := w) (p := p) (g := g) (W := w4) rfl _ _ rfl x rfl rfl HM4.out lp4 lg4 hs4 (by omega) ?_
              intro b5 o5 c5 w5 hm5 hsp5
              have H5 := Lib.hid (hsp5.has H4.out)
              have HM5 := Lib.hid hm5
              obtain ⟨f5, hr5⟩ := H5.out.ring
              have HR5 := Lib.hid hr5
              clear hm5 hsp5 hr5))
          with_reducible refine (same_is c5 (by simp) HR5.out HM5.out.reads).mono ?_
          rintro e w9 ⟨rfl, hb9⟩
          have H9 := Lib.hid (H5.out.more hb9)
          have HM9 := Lib.hid (HM5.out.below hb9)
          clear hb9
          go_wp2
          go_roundw
          case rel => exact ⟨k + 1, c5, some ⟨b5, o5, none⟩, xs ++ [x], by omega, by simp; omega, by go_num, by simp, H9.out, HM9.out⟩
          case measure => simp [intOf]; omega
        · by_cases hd1 : d = 1
          · subst hd1
            go_wp2_with (fail)
            with_reducible refine (I.push_room x (by omega) HRg.out).mono ?_
            rintro e w4 ⟨rfl, hr4, ht4⟩
            have H4 := Lib.hid (H3.out.turn hr4 ht4)
            have HM4 := Lib.hid (HM.out.turns ht4)
            have cx4 := CX.out _ H4.out.below
            have cd4 := CD.out _ H4.out.below
            obtain ⟨f4, hr4⟩ := hr4
            have lp4 := hr4.ltp
            have lg4 := hr4.ltg
            have HR4 := Lib.hid hr4
            have hs4 := H4.out.below.size
            clear hr4 ht4
            go_wp2_with (at_builtin; first
             | (refine append_mid (w0 := w) (p := p) (g := g) (W := w4) rfl _ _ rfl x rfl rfl HM4.out lp4 lg4 hs4 (by omega) ?_
                intro b5 o5 c5 w5 hm5 hsp5
                have H5 := Lib.hid (hsp5.has H4.out)
                have HM5 := Lib.hid hm5
                obtain ⟨f5, hr5⟩ := H5.out.ring
                have HR5 := Lib.hid hr5
                clear hm5 hsp5 hr5))
            with_reducible refine (same_is c5 (by simp) HR5.out HM5.out.reads).mono ?_
            rintro e w9 ⟨rfl, hb9⟩
            have H9 := Lib.hid (H5.out.more hb9)
            have HM9 := Lib.hid (HM5.out.below hb9)
            clear hb9
            go_wp2
            go_roundw
            case rel => exact ⟨k + 1, c5, some ⟨b5, o5, none⟩, xs ++ [x], by omega, by simp; omega, by go_num, by simp, H9.out, HM9.out⟩
            case measure => simp [intOf]; omega
          · have t6 : (d == 0) = false := by rw [beq_eq_false_iff_ne]; omega
            have t7 : (d == 1) = false := by rw [beq_eq_false_iff_ne]; omega
            cases xs with
            | nil =>
              have t8 : ((0 : Int) == (n : Int)) = false := by rw [beq_eq_false_iff_ne]; omega
              go_wp2_with (fail)
              with_reducible refine (I.take_none HRg.out).mono ?_
              rintro e w' ⟨rfl, rfl⟩
              go_wp2_with (fail)
              with_reducible refine (same_is mc (by simp) HRg.out HM.out.reads).mono ?_
              rintro e w9 ⟨rfl, hb9⟩
              have H9 := Lib.hid (H3.out.more hb9)
              have HM9 := Lib.hid (HM.out.below hb9)
              clear hb9
              go_wp2
              go_roundw
              case rel => exact ⟨k + 1, mc, A, [], by omega, by simp, by go_num, by simp, H9.out, HM9.out⟩
              case measure => simp [intOf]; omega
            | cons x0 xs =>
              simp only [List.length_cons] at hxk hxn hfull
              have t5' : ((xs.length : Int) + 1 == (n : Int)) = false := by rw [beq_eq_false_iff_ne]; omega
              clear t5 hfull
              obtain ⟨b3, off3, rfl, _, hc3⟩ := HM.out.reads (by simp)
              clear hc3
              have hfit := HM.out.fits
              rw [List.length_cons] at hfit
              by_cases hmc : mc = 1
              · subst hmc
                obtain rfl : xs = [] := List.eq_nil_of_length_eq_zero (by omega)
                go_wp2_with (fail)
                with_reducible refine (I.take HRg.out).mono ?_
                rintro e w4 ⟨rfl, hr4, ht4⟩
                have H4 := Lib.hid (H3.out.turn hr4 ht4)
                have HM4 := Lib.hid (HM.out.turns ht4)
                have cx4 := CX.out _ H4.out.below
                have cd4 := CD.out _ H4.out.below
                obtain ⟨f4, hr4⟩ := hr4
                have lp4 := hr4.ltp
                have lg4 := hr4.ltg
                have HR4 := Lib.hid hr4
                have hs4 := H4.out.below.size
                clear hr4 ht4
                have c3 : w4.cell? ⟨b3, off3, none⟩ = some (.int .i64 x0) := by
                  obtain ⟨b4, off4, e4, _, hc4⟩ := HM4.out.reads (by simp)
                  have := hc4 0 x0 rfl
                  cases e4
                  simpa using this
                go_wp2_with (fail)
                have HM6 := Lib.hid HM4.out.cut0
                with_reducible refine (same_is 0 (by simp) HR4.out HM6.out.reads).mono ?_
                rintro e w9 ⟨rfl, hb9⟩
                have H9 := Lib.hid (H4.out.more hb9)
                have HM9 := Lib.hid (HM6.out.below hb9)
                clear hb9
                go_wp2
                go_roundw
                case rel => exact ⟨k + 1, 0, some ⟨b3, off3, none⟩, [], by omega, by simp, by go_num, by simp, H9.out, HM9.out⟩
                case measure => simp [intOf]; omega
              · go_wp2_with (fail)
                with_reducible refine (I.take HRg.out).mono ?_
                rintro e w4 ⟨rfl, hr4, ht4⟩
                have H4 := Lib.hid (H3.out.turn hr4 ht4)
                have HM4 := Lib.hid (HM.out.turns ht4)
                have cx4 := CX.out _ H4.out.below
                have cd4 := CD.out _ H4.out.below
                obtain ⟨f4, hr4⟩ := hr4
                have lp4 := hr4.ltp
                have lg4 := hr4.ltg
                have HR4 := Lib.hid hr4
                have hs4 := H4.out.below.size
                clear hr4 ht4
                have c3 : w4.cell? ⟨b3, off3, none⟩ = some (.int .i64 x0) := by
                  obtain ⟨b4, off4, e4, _, hc4⟩ := HM4.out.reads (by simp)
                  have := hc4 0 x0 rfl
                  cases e4
                  simpa using this
                go_wp2_with (fail)
                have HM6 := Lib.hid (HM4.out.cut1 hmc)
                with_reducible refine (same_is (mc - 1) (by simp) HR4.out HM6.out.reads).mono ?_
                rintro e w9 ⟨rfl, hb9⟩
                have H9 := Lib.hid (H4.out.more hb9)
                have HM9 := Lib.hid (HM6.out.below hb9)
                clear hb9
                go_wp2
                go_roundw
                case rel => exact ⟨k + 1, (mc - 1), some ⟨b3, off3 + 1, none⟩, xs, by omega, by omega, by go_num, by simp, H9.out, HM9.out⟩
                case measure => simp [intOf]; omega
    · have t4 : decide ((k : Int) < (l.length : Int)) = false := by simp; omega
      have t4' : decide (k < l.length) = false := by simp; omega
      go_wp2
      go_ret
      exact ⟨rfl, H3.out.below⟩
end Go.Proofs.Ytnegmgnoohedlaa.Model
