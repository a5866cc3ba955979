/- The answers that the document fixes. -/
import Derived.Test.YtbijgmaeechmoaaDoorQx
namespace Go.Proofs.YtbijgmaeechmoaaDoor
open Go.RowKit Kx
set_option maxRecDepth 100000

/-- It answers true; new memory was made, nothing else. -/
def Woke (w : World) (e : Ending) (w' : World) : Prop := e = .returned (.bool true) ∧ Below w.heap.size w w'
def tA : Tk := ⟨⟨#[97]⟩, 9, 8, 3, 0, 2, 1, 1, 2, 1, 5⟩
theorem itoa1 (n : Nat) (h : n < 10) : Lib.itoa (n : Int) = [UInt8.ofNat (48 + n)] := by rw [itoa_of (by omega)]; exact dec_small h
theorem printAA : printA 2 [tA] = ([98, 117, 114, 115, 116, 32, 50, 10, 116, 97, 115, 107, 32, 97, 32, 57, 32, 56, 32, 51, 32, 114, 101, 116, 114, 121, 32, 48, 32, 50, 32, 49, 32, 49, 32, 50, 32, 53, 10], 0) := by
  have hw : (whyF 2 [tA]).1 = 0 := by decide +kernel
  unfold printA
  rw [if_pos hw]
  have h0 : Lib.itoa 0 = [48] := itoa1 0 (by omega)
  have h1 : Lib.itoa 1 = [49] := itoa1 1 (by omega)
  have h2 : Lib.itoa 2 = [50] := itoa1 2 (by omega)
  have h3 : Lib.itoa 3 = [51] := itoa1 3 (by omega)
  have h5 : Lib.itoa 5 = [53] := itoa1 5 (by omega)
  have h8 : Lib.itoa 8 = [56] := itoa1 8 (by omega)
  have h9 : Lib.itoa 9 = [57] := itoa1 9 (by omega)
  simp only [textW, linesW, lineW, numsW, tA, h0, h1, h2, h3, h5, h8, h9]
  rfl
theorem print0 : printA 0 [] = ([], 1) := rfl
theorem tasks_one (w : World) (t : Tk) : Tasks (w.alloc (.cells #[.string t.name, .int .i64 t.T, .int .i64 t.D, .int .i64 t.C, .int .i64 t.A, .int .i64 t.Seg, .int .i64 t.Cost, .int .i64 t.M, .int .i64 t.K, .int .i64 t.Mode, .int .i64 t.Prio] 26)) (some ⟨w.heap.size, 0, none⟩) 1 [t] := by
  refine ⟨by simp, fun _ => ⟨w.heap.size, 0, rfl, by simp, fun i u hi j v hj => ?_⟩⟩
  have h0 : i = 0 := by have := (List.getElem?_eq_some_iff.1 hi).1; simp at this; omega
  subst h0
  have : t = u := by simpa using hi
  subst this
  rw [Lies.cell (Lies.made w 26 _)]
  simpa [cellsK] using hj

set_option maxHeartbeats 4000000 in
theorem awake (w : World) (hT : Tab w) : Calls Tryd.prog 7 #[] w (Woke w) := by
  obtain ⟨V, hV⟩ : ∃ V, V = (w.alloc (.cells #[.string ⟨#[97]⟩, .int .i64 9, .int .i64 8, .int .i64 3, .int .i64 0, .int .i64 2, .int .i64 1, .int .i64 1, .int .i64 2, .int .i64 1, .int .i64 5] 26)).alloc (.cells #[.int .i64 2, .slice (some ⟨w.heap.size, 0, none⟩) 1 1] 24) := ⟨_, rfl⟩
  have HV := Lib.hid hV
  have HB := Lib.hid (show Below w.heap.size w V by rw [hV]; exact (below_new _ _).alloc (by simp) _)
  have HT := Lib.hid (show Tasks V (some ⟨w.heap.size, 0, none⟩) 1 [tA] by
    rw [hV]; exact (tasks_one w tA).below (Nat.le_refl _) (below_new _ _))
  have HL := Lib.hid (show Lies V (w.heap.size + 1) 24 #[.int .i64 2, .slice (some ⟨w.heap.size, 0, none⟩) 1 1] by
    rw [hV]
    have := Lies.made (w.alloc (.cells #[.string ⟨#[97]⟩, .int .i64 9, .int .i64 8, .int .i64 3, .int .i64 0, .int .i64 2, .int .i64 1, .int .i64 1, .int .i64 2, .int .i64 1, .int .i64 5] 26)) 24 #[.int .i64 2, .slice (some ⟨w.heap.size, 0, none⟩) 1 1]
    simpa using this)
  have HTV := Lib.hid (hT.below HB.out)
  have x0 : V.cell? ⟨w.heap.size + 1, 0, none⟩ = some (.int .i64 2) := HL.out.cell 0
  have x1 : V.cell? ⟨w.heap.size + 1, 1, none⟩ = some (.slice (some ⟨w.heap.size, 0, none⟩) 1 1) := HL.out.cell 1
  have k1 := set_ 2 [tA] (some ⟨w.heap.size, 0, none⟩) 1 (w := V) (by simp [maxLen]) HT.out HTV.out
  rw [printAA] at k1
  have K1 := Lib.hid k1
  have K2 := Lib.hid (fun W (h : Tab W) => by
    have := set_ 0 [] none 0 (w := W) (by simp) ⟨Nat.le_refl _, fun h => by simp at h⟩ h
    rw [print0] at this; exact this)
  have K3 := Lib.hid (fun W => mode_ 3 W)
  have K4 := Lib.hid (fun W => mode_ 9 W)
  simp only [List.length_cons, List.length_nil] at K1 K2
  clear hV hT k1
  go_enter Tryd.func7, Tryd.ntmps7
  go_upto_region 2 with fail
  try rw [← HV.out]
  go_wp2_with (fail)
  with_reducible refine K1.out.mono ?_
  rintro e w1 ⟨rfl, hb1⟩
  have HB1 := Lib.hid (HB.out.trans (hb1.mono HB.out.size))
  have HT1 := Lib.hid (HTV.out.below hb1)
  have KK := Lib.hid (K2.out w1 HT1.out)
  clear hb1 x0 x1
  go_wp2_with (fail)
  with_reducible refine KK.out.mono ?_
  rintro e w2 ⟨rfl, hb2⟩
  have HB2 := Lib.hid (HB1.out.trans (hb2.mono HB1.out.size))
  clear hb2
  go_wp2_with (fail)
  with_reducible refine (K3.out _).mono ?_
  rintro e w3 ⟨rfl, rfl⟩
  go_wp2_with (fail)
  with_reducible refine (K4.out _).mono ?_
  rintro e w4 ⟨rfl, rfl⟩
  go_wp2
  go_ret
  exact ⟨rfl, HB2.out⟩
end Go.Proofs.YtbijgmaeechmoaaDoor
