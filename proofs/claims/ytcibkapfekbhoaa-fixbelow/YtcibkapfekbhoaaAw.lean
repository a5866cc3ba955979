/- Answers that the document fixes. -/
import Derived.Test.YtcibkapfekbhoaaRs
import Derived.Test.YtcibkapfekbhoaaLt
namespace Go.Proofs.Ytcibkapfekbhoaa
open Go.RowKit

def tA : Tk := ⟨⟨#[97]⟩, 20, 20, 3, 0, 3, 0, 1, 1, 1, 1⟩
def tB : Tk := ⟨⟨#[98]⟩, 50, 40, 4, 2, 0, 0, 1, 1, 3, 2⟩
theorem fineAB : ∀ t ∈ [tA, tB], Fine t := by
  intro t ht
  simp only [List.mem_cons, List.not_mem_nil, or_false] at ht
  rcases ht with rfl | rfl <;> exact ⟨by decide, by decide⟩
set_option maxRecDepth 100000 in
theorem low8 : ∀ n : Nat, n < 8 → (n : Int) < nextV 1 [tA, tB] tA 1000 n := by decide
set_option maxRecDepth 100000 in
theorem low12 : ∀ n : Nat, n < 12 → (n : Int) < nextV 1 [tA, tB] tB 1000 n := by decide
set_option maxRecDepth 100000 in
theorem at8 : nextV 1 [tA, tB] tA 1000 8 = 8 := by decide
set_option maxRecDepth 100000 in
theorem at12 : nextV 1 [tA, tB] tB 1000 12 = 12 := by decide
set_option maxRecDepth 100000 in
theorem at0 : nextV 1 [tA, tB] tB 1000 0 = 6 := by decide
theorem dear3 : maxE (dearQ 1) [tA, tB] = 3 := by decide
theorem ahead2 : maxE (aheadQ 1) [tA, tB] = 2 := by decide
theorem resp8 : Resp (nextV 1 [tA, tB] tA 1000) 20 8 true := .inl ⟨rfl, by omega, by omega, at8, fun x x0 x1 => by
  have := low8 x.toNat (by omega)
  rwa [show ((x.toNat : Nat) : Int) = x by omega] at this⟩
theorem resp12 : Resp (nextV 1 [tA, tB] tB 1000) 40 12 true := .inl ⟨rfl, by omega, by omega, at12, fun x x0 x1 => by
  have := low12 x.toNat (by omega)
  rwa [show ((x.toNat : Nat) : Int) = x by omega] at this⟩
set_option maxRecDepth 100000 in
set_option maxHeartbeats 4000000 in
theorem awake (w : World) : Calls Try.prog 9 #[] w (Woke w) := by
  obtain ⟨X, hX⟩ : ∃ X, X = (w.alloc (.cells (boxT tA ++ boxT tB) 39)).alloc (.cells #[.int .i64 1, .slice (some ⟨w.heap.size, 0, none⟩) 2 2] 24) := ⟨_, rfl⟩
  have HB : Hid (Below w.heap.size w X) := by rw [hX]; exact (below_new _ _).alloc (by simp) _
  have HR : Lies X w.heap.size 39 (boxT tA ++ boxT tB) := by rw [hX]; exact (Lies.made w 39 (boxT tA ++ boxT tB)).alloc _
  have HS : Lies X (w.heap.size + 1) 24 #[.int .i64 1, .slice (some ⟨w.heap.size, 0, none⟩) 2 2] := by
    rw [hX]
    have := Lies.made (w.alloc (.cells (boxT tA ++ boxT tB) 39)) 24 #[.int .i64 1, .slice (some ⟨w.heap.size, 0, none⟩) 2 2]
    simpa using this
  have HSH := Lib.hid HS
  clear HS
  have HT : Hid (Tasks X (some ⟨w.heap.size, 0, none⟩) 2 [tA, tB]) := Lib.hid (tasks_row HR (by simp [flatK, cellsK, boxT]) (by simp))
  clear HR
  have K0 : Hid (∀ W, Below X.heap.size X W → Calls Try.prog 20 #[.agg #[.int .i64 1, .slice (some ⟨w.heap.size, 0, none⟩) 2 2], .int .i64 0, .int .i64 1000] W (Gives (.tuple #[.int .i64 8, .bool true]) W)) := Lib.hid (fun W hb =>
    response 1 1000 (l := [tA, tB]) (k := 0) (o := tA) (by simp) fineAB (HT.out.below (Nat.le_refl _) hb) rfl (by omega) (by omega) (by omega) (by omega) resp8)
  have K1 : Hid (∀ W, Below X.heap.size X W → Calls Try.prog 20 #[.agg #[.int .i64 1, .slice (some ⟨w.heap.size, 0, none⟩) 2 2], .int .i64 1, .int .i64 1000] W (Gives (.tuple #[.int .i64 12, .bool true]) W)) := Lib.hid (fun W hb =>
    response 1 1000 (l := [tA, tB]) (k := 1) (o := tB) (by simp) fineAB (HT.out.below (Nat.le_refl _) hb) rfl (by omega) (by omega) (by omega) (by omega) resp12)
  have K2 : Hid (∀ W, Below X.heap.size X W → Calls Try.prog 13 #[.agg #[.int .i64 1, .slice (some ⟨w.heap.size, 0, none⟩) 2 2], .int .i64 1, .int .i64 1000, .int .i64 0] W (Gives (.tuple #[.int .i64 6, .bool true]) W)) := Lib.hid (fun W hb => by
    have := nextP 1 1000 0 (l := [tA, tB]) (k := 1) (o := tB) (by simp) fineAB (HT.out.below (Nat.le_refl _) hb) rfl (by omega) (by omega) (by omega) (by omega) (by omega) (by omega)
    rw [at0] at this
    exact this)
  have K3 : Hid (∀ W, Below X.heap.size X W → Calls Try.prog 14 #[.agg #[.int .i64 1, .slice (some ⟨w.heap.size, 0, none⟩) 2 2], .int .i64 0] W (Gives (.int .i64 3) W)) := Lib.hid (fun W hb => by
    have := dear 1 (l := [tA, tB]) (k := 0) (o := tA) (by simp) fineAB (HT.out.below (Nat.le_refl _) hb) rfl
    rw [show tA.Prio = 1 from rfl, dear3] at this
    exact this)
  have K4 : Hid (∀ W, Below X.heap.size X W → Calls Try.prog 16 #[.agg #[.int .i64 1, .slice (some ⟨w.heap.size, 0, none⟩) 2 2], .int .i64 0] W (Gives (.int .i64 2) W)) := Lib.hid (fun W hb => by
    have := ahead 1 (l := [tA, tB]) (k := 0) (o := tA) (by simp) fineAB (HT.out.below (Nat.le_refl _) hb) rfl
    rw [show tA.Prio = 1 from rfl, ahead2] at this
    exact this)
  simp only [boxT, tA, tB, List.append_toArray, List.cons_append, List.nil_append] at hX
  have HXE := Lib.hid hX
  clear hX HT
  go_enter Try.func9, Try.ntmps9
  go_upto_region 2 with fail
  rw [← HXE.out]
  clear HXE
  obtain ⟨B, hB⟩ : ∃ B, B = w.heap.size + 1 := ⟨_, rfl⟩
  rw [← hB] at HSH ⊢
  clear hB
  have s0 : X.cell? ⟨B, 0, none⟩ = some (.int .i64 1) := HSH.out.cell 0
  have s1 : X.cell? ⟨B, 1, none⟩ = some (.slice (some ⟨w.heap.size, 0, none⟩) 2 2) := HSH.out.cell 1
  have K0' := Lib.hid (K0.out X (Below.refl _ _))
  go_wp2_with (fail)
  with_reducible refine K0'.out.mono ?_
  rintro e w1 ⟨rfl, hb1⟩
  have HB1 := Lib.hid hb1
  have HS1 := Lib.hid (HSH.out.below hb1 HSH.out.lt)
  have K1' := Lib.hid (K1.out _ hb1)
  clear hb1 s0 s1 K0 K0' K1
  have s0 : w1.cell? ⟨B, 0, none⟩ = some (.int .i64 1) := HS1.out.cell 0
  have s1 : w1.cell? ⟨B, 1, none⟩ = some (.slice (some ⟨w.heap.size, 0, none⟩) 2 2) := HS1.out.cell 1
  go_wp2_with (fail)
  with_reducible refine K1'.out.mono ?_
  rintro e w2 ⟨rfl, hb2⟩
  have HB2 := Lib.hid (HB1.out.trans (hb2.mono HB1.out.size))
  have HS2 := Lib.hid (HS1.out.below hb2 HS1.out.lt)
  have K2' := Lib.hid (K2.out _ HB2.out)
  clear hb2 s0 s1 K1' K2
  have s0 : w2.cell? ⟨B, 0, none⟩ = some (.int .i64 1) := HS2.out.cell 0
  have s1 : w2.cell? ⟨B, 1, none⟩ = some (.slice (some ⟨w.heap.size, 0, none⟩) 2 2) := HS2.out.cell 1
  go_wp2_with (fail)
  with_reducible refine K2'.out.mono ?_
  rintro e w3 ⟨rfl, hb3⟩
  have HB3 := Lib.hid (HB2.out.trans (hb3.mono HB2.out.size))
  have HS3 := Lib.hid (HS2.out.below hb3 HS2.out.lt)
  have K3' := Lib.hid (K3.out _ HB3.out)
  clear hb3 s0 s1 K2' K3
  have s0 : w3.cell? ⟨B, 0, none⟩ = some (.int .i64 1) := HS3.out.cell 0
  have s1 : w3.cell? ⟨B, 1, none⟩ = some (.slice (some ⟨w.heap.size, 0, none⟩) 2 2) := HS3.out.cell 1
  go_wp2_with (fail)
  with_reducible refine K3'.out.mono ?_
  rintro e w4 ⟨rfl, hb4⟩
  have HB4 := Lib.hid (HB3.out.trans (hb4.mono HB3.out.size))
  have HS4 := Lib.hid (HS3.out.below hb4 HS3.out.lt)
  have K4' := Lib.hid (K4.out _ HB4.out)
  clear hb4 s0 s1 K3' K4
  have s0 : w4.cell? ⟨B, 0, none⟩ = some (.int .i64 1) := HS4.out.cell 0
  have s1 : w4.cell? ⟨B, 1, none⟩ = some (.slice (some ⟨w.heap.size, 0, none⟩) 2 2) := HS4.out.cell 1
  go_wp2_with (fail)
  with_reducible refine K4'.out.mono ?_
  rintro e w5 ⟨rfl, hb5⟩
  have HB5 := Lib.hid (HB4.out.trans (hb5.mono HB4.out.size))
  clear hb5
  go_wp2
  go_ret
  exact ⟨rfl, HB.out.trans (HB5.out.mono HB.out.size)⟩
end Go.Proofs.Ytcibkapfekbhoaa
