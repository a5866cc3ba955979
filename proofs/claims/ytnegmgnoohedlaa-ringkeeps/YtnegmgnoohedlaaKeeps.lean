/- The walk of the statement that what a ring answers is new memory. -/
import Derived.Test.YtnegmgnoohedlaaHas
import Derived.Laws.OwnMore
namespace Go.Proofs.Ytnegmgnoohedlaa.Keeps
open Go.RowKit

def PutRel (l : List Int) (w : World) (p g : Nat) (i : Value) (W : World) : Prop := ∃ k : Nat, k ≤ l.length ∧ i = .int .i64 (k : Int) ∧ IHas w p g 600 (l.take k) W
/-- The row that was answered may have turned; the ring hasn't. -/
def TurnRel (l : List Int) (w : World) (p g b cap : Nat) (i : Value) (W : World) : Prop :=
  ∃ (k : Nat) (ys : List Value), k ≤ l.length ∧ i = .int .i64 (k : Int) ∧ IHas w p g 600 l W ∧ b ≠ p ∧ b ≠ g ∧ w.heap.size ≤ b ∧
    W.ownsRow w.heap.size 3 1 (.slice (some ⟨b, 0, none⟩) l.length cap) l.length ys ∧ ∀ j, k ≤ j → j < l.length → ∃ z, ys[j]? = some (.int .i64 z)

theorem ring_far {w : World} {p g n f b i : Nat} {xs : List Int} {u : Value} (h : I.Is w p g n f xs) (hp : b ≠ p) (hg : b ≠ g) : I.Is (w.setCell ⟨b, i, none⟩ u) p g n f xs := by
  obtain ⟨cs, hl, hs⟩ := h.body
  exact ⟨h.ne, h.n1, h.n2, h.f1, h.len, h.head.there (a := ⟨b, i, none⟩) (Ne.symm hp) u, cs, hl.there (a := ⟨b, i, none⟩) (Ne.symm hg) u, hs⟩
theorem has_far {w0 W : World} {p g n b i : Nat} {xs : List Int} {u : Value} (h : IHas w0 p g n xs W) (hp : b ≠ p) (hg : b ≠ g) (hb : w0.heap.size ≤ b) : IHas w0 p g n xs (W.setCell ⟨b, i, none⟩ u) :=
  let ⟨f, hr⟩ := h.2.2.1
  ⟨h.1, h.2.1, ⟨f, ring_far hr hp hg⟩, h.2.2.2.setCell (p := ⟨b, i, none⟩) hb u⟩

set_option maxHeartbeats 1000000 in
theorem big (a : Option Addr) (len cap : Nat) (w : World) (hm : len ≤ maxLen) (h : 500 < len) : Calls Try.prog 5 #[.slice a len cap] w (Woke w) := by
  unfold maxLen at hm
  have t1 : decide ((500 : Int) < (len : Int)) = true := by simp; omega
  go_enter Try.func5, Try.ntmps5
  go_wp2_with (fail)
  refine (awake _).mono ?_
  rintro e w1 ⟨rfl, hb⟩
  go_wp2_with (fail)
  refine (awake _).mono ?_
  rintro e w2 ⟨rfl, hb2⟩
  go_wp2
  go_ret
  exact ⟨rfl, hb.trans (hb2.mono hb.size)⟩

set_option maxHeartbeats 1000000 in
theorem core (a : Option Addr) (cap : Nat) (l : List Int) (w : World) (hl : l.length ≤ 500) (hr : Reads (Value.int .i64) w a l) :
    Calls Try.prog 5 #[.slice a l.length cap] w (Woke w) := by
  have t1 : decide ((500 : Int) < (l.length : Int)) = false := by simp; omega
  have HR := Lib.hid hr
  clear hr
  go_enter Try.func5, Try.ntmps5
  go_wp2_with (fail)
  refine (awake _).mono ?_
  rintro e w1 ⟨rfl, hb⟩
  go_wp2_with (fail)
  refine (I.new 600 _ (by omega) (by omega)).mono ?_
  rintro e w2 ⟨p, g, rfl, hp, hg, hring, hb2⟩
  have hb' := hb.trans (hb2.mono hb.size)
  have H2 := Lib.hid (Has.new (Nat.le_trans hb.size hp) (Nat.le_trans hb.size hg) hring hb')
  clear hring hp hg hb hb2 hb'
  go_wp2
  go_loopw [5] (fun i W => PutRel l w p g i W) (fun i _ => l.length - (intOf i).toNat)
  case atStart => exact ⟨0, by omega, rfl, H2.out⟩
  case round =>
    obtain ⟨k, hk, rfl, hh⟩ := hrel
    have H3 := Lib.hid hh
    clear hh
    by_cases hlt : k < l.length
    · have t2 : decide ((k : Int) < (l.length : Int)) = true := by simp; omega
      obtain ⟨b2, off, rfl, _, hc⟩ := (HR.out.below (Nat.le_refl _) H3.out.below) (by omega)
      have hx : l[k]? = some l[k] := by simp
      have ck := hc k _ hx
      clear hc
      have hnext : l.take k ++ [l[k]] = l.take (k + 1) := by rw [List.take_add_one, hx]; simp
      have HN := Lib.hid hnext
      clear hnext hx
      generalize l[k] = x at ck HN
      have hlen : (l.take k).length < 600 := by simp; omega
      obtain ⟨f, hring⟩ := H3.out.ring
      have HRg := Lib.hid hring
      clear hring
      go_wp2_with (fail)
      with_reducible refine (I.put x hlen HRg.out).mono ?_
      rintro e w4 ⟨rfl, hr4, ht4⟩
      have H4 := Lib.hid ((H3.out.turn ⟨f, hr4⟩ ht4).eq HN.out)
      clear hr4 ht4
      go_wp2
      go_roundw
      case rel => exact ⟨k + 1, by omega, by go_num, H4.out⟩
      case measure => simp [intOf]; omega
    · have t2 : decide ((k : Int) < (l.length : Int)) = false := by simp; omega
      have t2' : decide (k < l.length) = false := by simp; omega
      have H4 := Lib.hid (H3.out.eq (show l.take k = l from List.take_of_length_le (by omega)))
      clear H3
      obtain ⟨f, hring⟩ := H4.out.ring
      have HRg := Lib.hid hring
      have lp := hring.ltp
      have lg := hring.ltg
      clear hring
      go_wp2_with (fail)
      with_reducible refine (I.all HRg.out).mono ?_
      rintro e w5 ⟨b, c, rfl, ho, hb5⟩
      have hbb := (ho.lt b rfl).1
      have hsz := H4.out.below.size
      have H5 := Lib.hid (H4.out.more hb5)
      have HO : Hid (w5.ownsRow w.heap.size 3 1 (.slice (some ⟨b, 0, none⟩) l.length c) l.length (l.map (Value.int .i64))) := by
        refine ⟨ho.1, ?_⟩
        rcases ho.2 with ⟨hn, _⟩ | ⟨g', cap', cur, he, hbase, rest⟩
        · cases hn
        · exact .inr ⟨g', cap', cur, he, Nat.le_trans hsz hbase, rest⟩
      clear ho hb5
      go_wp2
      go_loopw [7] (fun i W => TurnRel l w p g b c i W) (fun i _ => l.length - (intOf i).toNat)
      case atStart => exact ⟨0, _, by omega, rfl, H5.out, by omega, by omega, by omega, HO.out, fun j _ hj => ⟨l[j], by simp [hj]⟩⟩
      case round =>
        obtain ⟨i, ys, hi, rfl, hh, hbp, hbg, hwb, ho, hys⟩ := hrel
        have H6 := Lib.hid hh
        have HO6 := Lib.hid ho
        clear hh ho
        by_cases hin : i < l.length
        · have t3 : decide ((i : Int) < (l.length : Int)) = true := by simp; omega
          obtain ⟨z, hz⟩ := hys i (Nat.le_refl _) hin
          have hc := HO6.out.cellAt i (by omega)
          rw [hz] at hc
          have hfz := HO6.out.frozenAt i
          have HYS := Lib.hid hys
          clear hys hz
          go_wp2
          go_roundw
          case rel =>
            refine ⟨i + 1, ys.set i (.int .i64 (bits .xor .i64 z 1)), by omega, by go_num, has_far H6.out hbp hbg hwb, hbp, hbg, hwb, ?_, ?_⟩
            · exact (HO6.out.stored i _).1
            · intro j hj hjl
              obtain ⟨z', hz'⟩ := HYS.out j (by omega) hjl
              exact ⟨z', by rw [List.getElem?_set_ne (by omega)]; exact hz'⟩
          case measure => simp [intOf]; omega
        · have t3 : decide ((i : Int) < (l.length : Int)) = false := by simp; omega
          have t3' : decide (i < l.length) = false := by simp; omega
          obtain ⟨f6, hring⟩ := H6.out.ring
          have HR6 := Lib.hid hring
          clear hring hys
          go_wp2_with (fail)
          with_reducible refine (same cap HR6.out (HR.out.below (Nat.le_refl _) H6.out.below)).mono ?_
          rintro e w7 ⟨rfl, hb7⟩
          go_wp2
          go_ret
          exact ⟨rfl, H6.out.below.trans (hb7.mono H6.out.below.size)⟩
end Go.Proofs.Ytnegmgnoohedlaa.Keeps
