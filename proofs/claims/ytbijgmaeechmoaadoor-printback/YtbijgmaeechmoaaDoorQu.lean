/- The statements' own text of a set. -/
import Derived.Test.YtbijgmaeechmoaaDoorQt
namespace Go.Proofs.YtbijgmaeechmoaaDoor
open Go.RowKit Kx
set_option maxRecDepth 100000

def OutRel (b : Int) (l : List Tk) (V : World) (o i : Value) (W : World) : Prop :=
  ∃ (k : Nat) (S : ByteArray), k ≤ l.length ∧ i = .int .i64 (k : Int) ∧ o = .string S ∧ S.data.toList = preW b ++ linesW (l.take k) ∧ Below V.heap.size V W

set_option maxHeartbeats 4000000 in
theorem refSet (b : Int) (l : List Tk) (a : Option Addr) (cap : Nat) {w : World} (hw : (whyF b l).1 = 0) (ht : Tasks w a cap l) :
    Calls Tryd.prog 15 #[.agg #[.int .i64 b, .slice a l.length cap]] w (Makes (.string ⟨(textW b l).toArray⟩) w) := by
  obtain ⟨g, hg⟩ : ∃ g, g = w.heap.size := ⟨_, rfl⟩
  have HG := Lib.hid hg
  obtain ⟨V, hV⟩ : ∃ V, V = w.alloc (.cells #[.int .i64 b, .slice a l.length cap] 24) := ⟨_, rfl⟩
  have HV := Lib.hid hV
  have HBV := Lib.hid (show Below g w V by rw [hV, hg]; exact below_new _ _)
  have HL := Lib.hid (show Lies V g 24 #[.int .i64 b, .slice a l.length cap] by rw [hV, hg]; exact Lies.made _ _ _)
  have hgV : g < V.heap.size := HL.out.lt
  have HTV := Lib.hid (ht.below (B := g) (by omega) HBV.out)
  have h16 : l.length ≤ 16 := ((right_iff b l).1 hw).2.1.2
  have hWb : Wide b := by have := ((right_iff b l).1 hw).1; exact ⟨by omega, by omega⟩
  have HF := Lib.hid (fines hw)
  have K0 := Lib.hid (number b hWb V)
  have l0 := itoa_len hWb
  have HP := Lib.hid (show preW b = [98, 117, 114, 115, 116, 32] ++ Lib.itoa b ++ [10] by simp [preW, numsW])
  have hpl : (preW b).length ≤ 28 := by rw [HP.out]; simp; omega
  have HX := Lib.hid (textW_pre b l)
  have x0 : V.cell? ⟨g, 0, none⟩ = some (.int .i64 b) := HL.out.cell 0
  generalize textW b l = X at HX ⊢
  generalize Lib.itoa b = Y at K0 l0 HP
  clear hg hV ht hw hWb
  go_enter Tryd.func15, Tryd.ntmps15
  go_upto_region 1 with fail
  rw [← HV.out]
  try rw [← HG.out]
  go_wp2_with (fail)
  with_reducible refine K0.out.mono ?_
  rintro e w1 ⟨rfl, hb1⟩
  have HB1 := Lib.hid hb1
  clear hb1 K0 x0
  go_wp2
  obtain ⟨S0, hS0⟩ : ∃ S : ByteArray, S = ⟨#[98, 117, 114, 115, 116, 32]⟩ ++ ⟨Y.toArray⟩ ++ ⟨#[10]⟩ := ⟨_, rfl⟩
  try rw [← hS0]
  have HS0 := Lib.hid (show S0.data.toList = preW b ++ linesW (l.take 0) by rw [hS0, HP.out]; simp [linesW])
  go_loopw [3, 4] (fun o i W => OutRel b l V o i W) (fun _ i _ => l.length - (intOf i).toNat)
  case atStart => exact ⟨0, S0, by omega, rfl, by rw [hS0], HS0.out, HB1.out⟩
  case round =>
    obtain ⟨k, S, hk, rfl, rfl, hS, hbl⟩ := hrel
    have HS := Lib.hid hS
    have HB := Lib.hid hbl
    clear hS hbl hS0 HS0
    have y1 : wr.cell? ⟨g, 1, none⟩ = some (.slice a l.length cap) := (HL.out.below HB.out hgV).cell 1
    by_cases hlt : k < l.length
    · have t1 : decide ((k : Int) < (l.length : Int)) = true := by simp; omega
      have hx : l[k]? = some l[k] := List.getElem?_eq_getElem hlt
      have HTW := Lib.hid (HTV.out.below (Nat.le_refl _) HB.out)
      obtain ⟨bb, off, rfl, hbl, z0, z1, z2, z3, z4, z5, z6, z7, z8, z9, z10⟩ := HTW.out.cells hx
      have HE := Lib.hid (lines_next hlt)
      have hfi := HF.out _ (List.mem_of_getElem? hx)
      clear hx
      have hlen := linesW_len (l.take k) (fun u hu => HF.out u (List.mem_of_mem_take hu))
      rw [List.length_take, Nat.min_eq_left hk] at hlen
      have hSs : S.size ≤ 30000 := by rw [← name_len S, HS.out, List.length_append]; omega
      generalize l[k] = t at z0 z1 z2 z3 z4 z5 z6 z7 z8 z9 z10 HE hfi
      have hll := lineW_len hfi.room
      have K1 := Lib.hid (refTask t wr hfi.room)
      simp only [aggK] at K1
      generalize lineW t = Z at K1 HE hll
      clear hfi hlen
      go_wp2_with (fail)
      with_reducible refine K1.out.mono ?_
      rintro e w2 ⟨rfl, hb2⟩
      have HB2 := Lib.hid (HB.out.trans (hb2.mono HB.out.size))
      clear hb2 K1 z0 z1 z2 z3 z4 z5 z6 z7 z8 z9 z10
      go_wp2
      go_roundw
      case rel => exact ⟨k + 1, S ++ ⟨Z.toArray⟩ ++ ⟨#[10]⟩, by omega, by go_num, rfl, by rw [HE.out]; simp only [Joins.data_append, HS.out, List.append_assoc], HB2.out⟩
      case measure => simp [intOf]; omega
    · have t1 : decide ((k : Int) < (l.length : Int)) = false := by simp; omega
      have t1' : decide (k < l.length) = false := by simp; omega
      have HSL := Lib.hid (show S.data.toList = X by rw [HS.out, HX.out, List.take_of_length_le (by omega)])
      go_wp2
      go_ret
      refine ⟨?_, ?_⟩
      · exact congrArg (fun x => Ending.returned (Value.string x)) (text_eq HSL.out)
      · have := HBV.out.trans (HB.out.mono (Nat.le_of_lt hgV))
        rw [HG.out] at this
        exact this
end Go.Proofs.YtbijgmaeechmoaaDoor
