/- Parts: the program's and the statements' own; the sum of a row. -/
import Derived.Test.YtbofpbochgoafaaRo
namespace Go.Proofs.Ytbofpbochgoafaa
open Go.RowKit

def SumRel (l : List Int) (w : World) (s i : Value) (W : World) : Prop :=
  ∃ k : Nat, k ≤ l.length ∧ i = .int .i64 (k : Int) ∧ s = .int .i64 (l.take k).sum ∧ 0 ≤ (l.take k).sum ∧ (l.take k).sum ≤ (k : Int) * 5000 ∧ W = w
set_option maxHeartbeats 1000000 in
/-- The sum of a row of small numbers. -/
theorem sum {l : List Int} {a : Option Addr} {c n : Nat} {w : World} (hn : l.length = n) (hl : n ≤ 4000) (hx : ∀ (i : Nat) (x : Int), l[i]? = some x → 0 ≤ x ∧ x ≤ 5000) (h : Ints w a c l) :
    Calls Try.prog 11 #[.slice a n c] w (Says (.int .i64 l.sum) w) := by
  have HL := Lib.hid h
  have HX := Lib.hid hx
  clear h hx
  go_enter Try.func11, Try.ntmps11
  go_wp2
  go_loopw [3, 4] (fun s i W => SumRel l w s i W) (fun _ i _ => n - (intOf i).toNat)
  case atStart => exact ⟨0, by omega, rfl, rfl, by simp, by simp, rfl⟩
  case round =>
    obtain ⟨k, hk, rfl, rfl, s0, s1, rfl⟩ := hrel
    by_cases hlt : k < n
    · have t1 : decide ((k : Int) < (n : Int)) = true := by simp; omega
      have hy : l[k]? = some (l[k]'(by omega)) := List.getElem?_eq_getElem (by omega)
      obtain ⟨x0, x1⟩ := HX.out k _ hy
      obtain ⟨b, off, rfl, hb, hc⟩ := HL.out.form (by omega)
      have ck := hc k _ hy
      have HS := Lib.hid (sum_next hy)
      clear hc hy
      generalize l[k]'_ = x at *
      have S0 := Lib.hid (show 0 ≤ (l.take (k + 1)).sum ∧ (l.take (k + 1)).sum ≤ ((k + 1 : Nat) : Int) * 5000 by rw [HS.out]; omega)
      generalize (l.take k).sum = s at *
      go_wp2
      go_roundw
      case rel => exact ⟨k + 1, by omega, by go_num, by rw [HS.out], S0.out.1, S0.out.2, rfl⟩
      case measure => simp [intOf]; omega
    · have t1 : decide ((k : Int) < (n : Int)) = false := by simp; omega
      obtain rfl : k = n := by omega
      have HE := Lib.hid (show (l.take k).sum = l.sum by rw [List.take_of_length_le (by omega)])
      go_wp2
      go_ret
      exact ⟨by rw [HE.out]; rfl, rfl⟩

set_option maxHeartbeats 1000000 in
theorem parts_no {t : Tk} {d : Int} (hd : d < 1 ∨ t.C < d) (w : World) : Calls Try.prog 12 #[aggK t, .int .i64 d] w (Gives (.slice none 0 0) w) := by
  have HB := Lib.hid (Box.made w t)
  have KS := Lib.hid (fun W => segments_no hd W)
  clear hd
  simp only [boxT] at HB
  simp only [aggK] at KS ⊢
  go_enter Try.func12, Try.ntmps12
  go_wp2_with (fail)
  with_reducible refine (KS.out _).mono ?_
  rintro e w1 ⟨rfl, hb1⟩
  have HB1 := Lib.hid (HB.out.tells hb1)
  clear hb1
  go_wp2
  go_ret
  exact ⟨rfl, HB1.out.below⟩

/-- The first k parts are written, the others are zeros. -/
def fillF (s c d : Int) (k i : Nat) : Value := if i < k then .int .i64 (pf s c d i) else .int .i64 0
def FillRel (t : Tk) (s d : Int) (n g : Nat) (w : World) (i : Value) (W : World) : Prop :=
  ∃ k : Nat, k ≤ n ∧ i = .int .i64 (k : Int) ∧ Box w t W ∧ Row W g 3 n (fillF s t.Cost d k)
set_option maxHeartbeats 4000000 in
theorem parts {t : Tk} {d s : Int} {n : Nat} (h : Fine t) (hw : Ways t d n s) (hd : d ≤ t.C) (hC : t.C ≤ 3000) (w : World) : Calls Try.prog 12 #[aggK t, .int .i64 d] w (Parted (pl s t.Cost d n) w) := by
  obtain ⟨b1, b2, b3, b4, _, _⟩ := h.nums
  have hn := hw.cuts.few
  have hn1 := hw.cuts.1
  have hs1 := hw.cuts.2.1
  have HRM := Lib.hid (fun i hi => hw.cuts.room (i := i) hi)
  have hs2 : s ≤ 3000 := by
    have := hw.cuts.2.2.1
    have h2 := h.again
    by_cases hm : t.Mode = 1
    · rw [hw.retry hm]
      rcases h.mode with ⟨_, _, _, _⟩ | ⟨_, _, _, _⟩ <;> omega
    · rw [(hw.whole hm).2]; omega
  have KS := Lib.hid (fun W => segments h hw hd W)
  have HB := Lib.hid (Box.made w t)
  have MI := make_ints n (by omega)
  simp only [boxT] at HB
  simp only [aggK] at KS ⊢
  have t1 : ((n : Int) == 0) = false := by simp; omega
  have t2 : (n == 0) = false := by simp; omega
  have hd3 : d ≤ 3000 := by omega
  clear hw h hd
  go_enter Try.func12, Try.ntmps12
  go_wp2_with (fail)
  with_reducible refine (KS.out _).mono ?_
  rintro e w1 ⟨rfl, hb1⟩
  have HB1 := Lib.hid (HB.out.tells hb1)
  have HB2 := Lib.hid (HB1.out.tells (below_new w1 (.cells (madeCells #[.int .i64 0] n) 3)))
  have HR2 := Lib.hid ((Row.made w1 3 n (.int .i64 0)).eq (f' := fillF s t.Cost d 0) (fun i _ => by simp [fillF]))
  have hsz := HB1.out.lt
  have hs0 := HB1.out.below.size
  clear hb1
  go_wp2
  go_loopw [21] (fun i W => FillRel t s d n w1.heap.size w i W) (fun i _ => n - (intOf i).toNat)
  case atStart => exact ⟨0, by omega, rfl, HB2.out, HR2.out⟩
  case round =>
    obtain ⟨k, hk, rfl, hbx, hro⟩ := hrel
    have HX := Lib.hid hbx
    have HO := Lib.hid hro
    clear hbx hro
    by_cases hlt : k < n
    · have t3 : decide ((k : Int) < (n : Int)) = true := by simp; omega
      have r1 := HRM.out k hlt
      have r0 : 0 ≤ (k : Int) * s := Int.mul_nonneg (by omega) (by omega)
      have c6 := HX.out.cells.2.2.2.2.2.2.1
      have ck := HO.out.cell hlt
      have fk := HO.out.thawed k
      have HV := Lib.hid (show pf s t.Cost d k = (if d - (k : Int) * s < s then d - (k : Int) * s else s) + t.Cost from rfl)
      have HN : Hid (FillRel t s d n w1.heap.size w (.int .i64 ((k : Int) + 1)) (wr.setCell ⟨w1.heap.size, k, none⟩ (.int .i64 (pf s t.Cost d k)))) :=
        Lib.hid ⟨k + 1, by omega, by go_num, ⟨HX.out.below.setCell hs0 _, HX.out.lies.there (by show w.heap.size ≠ w1.heap.size; omega) _⟩, HO.out.set (fun i hi => by
          unfold fillF
          by_cases h1 : i = k
          · rw [if_pos h1, if_pos (by omega), h1]
          · rw [if_neg h1]
            by_cases h2 : i < k
            · rw [if_pos h2, if_pos (by omega)]
            · rw [if_neg h2, if_neg (by omega)])⟩
      generalize pf s t.Cost d k = p at HV HN
      by_cases hmin : d - (k : Int) * s < s
      · have HP : Hid (p = d - (k : Int) * s + t.Cost) := Lib.hid (by rw [HV.out, if_pos hmin])
        rw [HP.out] at HN
        clear HV HP
        go_wp2
        go_roundw
        case rel => exact HN.out
        case measure => simp [intOf]; omega
      · have HP : Hid (p = s + t.Cost) := Lib.hid (by rw [HV.out, if_neg hmin])
        rw [HP.out] at HN
        clear HV HP
        go_wp2
        go_roundw
        case rel => exact HN.out
        case measure => simp [intOf]; omega
    · have t3 : decide ((k : Int) < (n : Int)) = false := by simp; omega
      obtain rfl : k = n := by omega
      have HP := Lib.hid ((HO.out.eq (f' := fun i => .int .i64 (pf s t.Cost d i)) (fun i hi => by unfold fillF; rw [if_pos hi])).rest)
      go_wp2
      go_ret
      exact ⟨w1.heap.size, k, by rw [length_pl]; rfl, hs0, by rw [length_pl]; omega, HP.out, HX.out.below⟩
end Go.Proofs.Ytbofpbochgoafaa
