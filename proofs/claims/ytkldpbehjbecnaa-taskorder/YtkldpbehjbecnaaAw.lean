/- The program is awake: answers that the document fixes. -/
import Derived.Test.YtkldpbehjbecnaaLt
import Derived.Test.YtkldpbehjbecnaaOd
import Derived.Test.YtkldpbehjbecnaaWy
namespace Go.Proofs.Ytkldpbehjbecnaa
open Go.RowKit

def tA : Tk := ⟨⟨#[97]⟩, 9, 8, 3, 0, 2, 0, 1, 2, 1, 5⟩
def tB : Tk := ⟨⟨#[98]⟩, 9, 9, 1, 1, 0, 0, 1, 1, 3, 2⟩
def cAB : Array Value := #[.string ⟨#[97]⟩, .int .i64 9, .int .i64 8, .int .i64 3, .int .i64 0, .int .i64 2, .int .i64 0, .int .i64 1, .int .i64 2, .int .i64 1, .int .i64 5, .string ⟨#[98]⟩, .int .i64 9, .int .i64 9, .int .i64 1, .int .i64 1, .int .i64 0, .int .i64 0, .int .i64 1, .int .i64 1, .int .i64 3, .int .i64 2]
theorem whyAB : whyF 1 [tA, tB] = (0, -1) := by decide +kernel
theorem why0 : whyF 1 [] = (2, -1) := rfl
theorem firstB {o : Nat → Nat} (hp : Places 2 o) (ho : Order (keyP [tA, tB]) o 2) : o 0 = 1 := by
  have h0 := hp.1 0 (by omega)
  have h1 := hp.1 1 (by omega)
  have hne : o 0 ≠ o 1 := fun e => by have := hp.2 0 1 (by omega) (by omega) e; omega
  have hle := ho 0 1 (by omega) (by omega)
  rcases Nat.lt_or_ge (o 0) 1 with hlt | hge
  · have e0 : o 0 = 0 := by omega
    have e1 : o 1 = 1 := by omega
    rw [e0, e1] at hle
    exact absurd hle (by decide)
  · omega

set_option maxRecDepth 100000 in
set_option maxHeartbeats 4000000 in
theorem awake (w : World) : Calls Try.prog 9 #[] w (Woke w) := by
  obtain ⟨V, hV⟩ : ∃ V, V = (w.alloc (.cells cAB 32)).alloc (.cells #[.int .i64 1, .slice (some ⟨w.heap.size, 0, none⟩) 2 2] 24) := ⟨_, rfl⟩
  have HB0 : Hid (Below w.heap.size w V) := by rw [hV]; exact (below_new _ _).alloc (by simp) _
  have HA0 : Hid (Lies V w.heap.size 32 cAB) := by rw [hV]; exact (Lies.made _ _ _).alloc _
  have HS0 := Lib.hid (show Lies V (w.heap.size + 1) 24 #[.int .i64 1, .slice (some ⟨w.heap.size, 0, none⟩) 2 2] by
    rw [hV]
    have := Lies.made (w.alloc (.cells cAB 32)) 24 #[.int .i64 1, .slice (some ⟨w.heap.size, 0, none⟩) 2 2]
    simpa using this)
  have HVE : Hid ((w.alloc (.cells #[.string ⟨#[97]⟩, .int .i64 9, .int .i64 8, .int .i64 3, .int .i64 0, .int .i64 2, .int .i64 0, .int .i64 1, .int .i64 2, .int .i64 1, .int .i64 5, .string ⟨#[98]⟩, .int .i64 9, .int .i64 9, .int .i64 1, .int .i64 1, .int .i64 0, .int .i64 0, .int .i64 1, .int .i64 1, .int .i64 3, .int .i64 2] 32)).alloc (.cells #[.int .i64 1, .slice (some ⟨w.heap.size, 0, none⟩) 2 2] 24) = V) := hV.symm
  clear hV
  have HT : Hid (∀ W, Lies W w.heap.size 32 cAB → Tasks W (some ⟨w.heap.size, 0, none⟩) 2 [tA, tB]) := fun W h => tasks_row h rfl (by simp)
  have K1 : Hid (Calls Try.prog 11 #[.agg #[.int .i64 1, .slice (some ⟨w.heap.size, 0, none⟩) 2 2]] V (Whys (0, -1) V)) := by
    have := why 1 [tA, tB] (some ⟨w.heap.size, 0, none⟩) 2 (by decide) (HT.out V HA0.out)
    rw [whyAB] at this
    exact this
  go_enter Try.func9, Try.ntmps9
  go_wp2_with (fail)
  rw [HVE.out]
  with_reducible refine K1.out.mono ?_
  rintro e w1 ⟨rfl, hb1⟩
  have HB1 := Lib.hid (HB0.out.trans (hb1.mono HB0.out.size))
  have HA1 := Lib.hid (HA0.out.below hb1 HA0.out.lt)
  have HS1 := Lib.hid (HS0.out.below hb1 HS0.out.lt)
  clear hb1 HB0 HA0 HS0 K1 HVE
  have K2 : Hid (Calls Try.prog 11 #[.agg #[.int .i64 1, .slice none 0 0]] w1 (Whys (2, -1) w1)) := by
    have := why 1 [] none 0 (w := w1) (by decide) (tasks_none _ _ _)
    rw [why0] at this
    exact this
  go_wp2_with (fail)
  with_reducible refine K2.out.mono ?_
  rintro e w2 ⟨rfl, hb2⟩
  have HB2 := Lib.hid (HB1.out.trans (hb2.mono HB1.out.size))
  have HA2 := Lib.hid (HA1.out.below hb2 HA1.out.lt)
  have HS2 := Lib.hid (HS1.out.below hb2 HS1.out.lt)
  clear hb2 HB1 HA1 HS1 K2
  have s0 : w2.cell? ⟨w.heap.size + 1, 0, none⟩ = some (.int .i64 1) := HS2.out.cell 0
  have s1 : w2.cell? ⟨w.heap.size + 1, 1, none⟩ = some (.slice (some ⟨w.heap.size, 0, none⟩) 2 2) := HS2.out.cell 1
  have K3 : Hid (Calls Try.prog 15 #[.agg #[.int .i64 1, .slice (some ⟨w.heap.size, 0, none⟩) 2 2]] w2 (Ordered [tA, tB] w2)) := order 1 [tA, tB] (some ⟨w.heap.size, 0, none⟩) 2 (by decide) (by decide) (HT.out w2 HA2.out)
  go_wp2_with (fail)
  with_reducible refine K3.out.mono ?_
  rintro e w3 ⟨g, o, rfl, hb3, hge, hI, hP, hO⟩
  have HI := Lib.hid hI
  have HF := Lib.hid (firstB hP hO)
  have HB3 := Lib.hid (HB2.out.trans (hb3.mono HB2.out.size))
  have HA3 := Lib.hid (HA2.out.below hb3 HA2.out.lt)
  have HS3 := Lib.hid (HS2.out.below hb3 HS2.out.lt)
  clear hb3 HB2 HA2 HS2 K3 hI hP hO s0 s1
  have s0 : w3.cell? ⟨w.heap.size + 1, 0, none⟩ = some (.int .i64 1) := HS3.out.cell 0
  have s1 : w3.cell? ⟨w.heap.size + 1, 1, none⟩ = some (.slice (some ⟨w.heap.size, 0, none⟩) 2 2) := HS3.out.cell 1
  have K4 : Hid (Calls Try.prog 13 #[.agg #[.int .i64 1, .slice (some ⟨w.heap.size, 0, none⟩) 2 2]] w3 (Tells true w3)) := by
    have := right 1 [tA, tB] (some ⟨w.heap.size, 0, none⟩) 2 (by decide) (HT.out w3 HA3.out)
    rw [whyAB] at this
    exact this
  simp only [List.length_cons, List.length_nil, Nat.reduceAdd]
  go_wp2_with (fail)
  with_reducible refine K4.out.mono ?_
  rintro e w4 ⟨rfl, hb4⟩
  have HI4 := Lib.hid (HI.out.below hb4 HI.out.lt)
  have HB4 := Lib.hid (HB3.out.trans (hb4.mono HB3.out.size))
  have HA4 := Lib.hid (HA3.out.below hb4 HA3.out.lt)
  have HS4 := Lib.hid (HS3.out.below hb4 HS3.out.lt)
  clear hb4 HB3 HA3 HS3 K4 s0 s1 HI
  have s1 : w4.cell? ⟨w.heap.size + 1, 1, none⟩ = some (.slice (some ⟨w.heap.size, 0, none⟩) 2 2) := HS4.out.cell 1
  have o0 : w4.cell? ⟨g, 0, none⟩ = some (.int .i64 1) := by have := HI4.out.cell (i := 0) (by simp); rw [HF.out] at this; exact this
  have b0 : w4.cell? ⟨w.heap.size, 11, none⟩ = some (.string ⟨#[98]⟩) := HA4.out.cell 11
  have b1 : w4.cell? ⟨w.heap.size, 12, none⟩ = some (.int .i64 9) := HA4.out.cell 12
  have b2 : w4.cell? ⟨w.heap.size, 13, none⟩ = some (.int .i64 9) := HA4.out.cell 13
  have b3 : w4.cell? ⟨w.heap.size, 14, none⟩ = some (.int .i64 1) := HA4.out.cell 14
  have b4 : w4.cell? ⟨w.heap.size, 15, none⟩ = some (.int .i64 1) := HA4.out.cell 15
  have b5 : w4.cell? ⟨w.heap.size, 16, none⟩ = some (.int .i64 0) := HA4.out.cell 16
  have b6 : w4.cell? ⟨w.heap.size, 17, none⟩ = some (.int .i64 0) := HA4.out.cell 17
  have b7 : w4.cell? ⟨w.heap.size, 18, none⟩ = some (.int .i64 1) := HA4.out.cell 18
  have b8 : w4.cell? ⟨w.heap.size, 19, none⟩ = some (.int .i64 1) := HA4.out.cell 19
  have b9 : w4.cell? ⟨w.heap.size, 20, none⟩ = some (.int .i64 3) := HA4.out.cell 20
  have b10 : w4.cell? ⟨w.heap.size, 21, none⟩ = some (.int .i64 2) := HA4.out.cell 21
  have K5 : Hid (∀ W, Calls Try.prog 16 #[.agg #[.string ⟨#[98]⟩, .int .i64 9, .int .i64 9, .int .i64 1, .int .i64 1, .int .i64 0, .int .i64 0, .int .i64 1, .int .i64 1, .int .i64 3, .int .i64 2]] W (Tells true W)) := fun W => hard tB W
  go_wp2_with (fail)
  with_reducible refine (K5.out _).mono ?_
  rintro e w5 ⟨rfl, hb5⟩
  have HB5 := Lib.hid (HB4.out.trans (hb5.mono HB4.out.size))
  have HA5 := Lib.hid (HA4.out.below hb5 HA4.out.lt)
  have HS5 := Lib.hid (HS4.out.below hb5 HS4.out.lt)
  clear hb5 HB4 HA4 HS4 K5 s1 o0 HI4 b0 b1 b2 b3 b4 b5 b6 b7 b8 b9 b10
  have s1 : w5.cell? ⟨w.heap.size + 1, 1, none⟩ = some (.slice (some ⟨w.heap.size, 0, none⟩) 2 2) := HS5.out.cell 1
  have b0 : w5.cell? ⟨w.heap.size, 0, none⟩ = some (.string ⟨#[97]⟩) := HA5.out.cell 0
  have b1 : w5.cell? ⟨w.heap.size, 1, none⟩ = some (.int .i64 9) := HA5.out.cell 1
  have b2 : w5.cell? ⟨w.heap.size, 2, none⟩ = some (.int .i64 8) := HA5.out.cell 2
  have b3 : w5.cell? ⟨w.heap.size, 3, none⟩ = some (.int .i64 3) := HA5.out.cell 3
  have b4 : w5.cell? ⟨w.heap.size, 4, none⟩ = some (.int .i64 0) := HA5.out.cell 4
  have b5 : w5.cell? ⟨w.heap.size, 5, none⟩ = some (.int .i64 2) := HA5.out.cell 5
  have b6 : w5.cell? ⟨w.heap.size, 6, none⟩ = some (.int .i64 0) := HA5.out.cell 6
  have b7 : w5.cell? ⟨w.heap.size, 7, none⟩ = some (.int .i64 1) := HA5.out.cell 7
  have b8 : w5.cell? ⟨w.heap.size, 8, none⟩ = some (.int .i64 2) := HA5.out.cell 8
  have b9 : w5.cell? ⟨w.heap.size, 9, none⟩ = some (.int .i64 1) := HA5.out.cell 9
  have b10 : w5.cell? ⟨w.heap.size, 10, none⟩ = some (.int .i64 5) := HA5.out.cell 10
  have K6 : Hid (∀ W, Calls Try.prog 16 #[.agg #[.string ⟨#[97]⟩, .int .i64 9, .int .i64 8, .int .i64 3, .int .i64 0, .int .i64 2, .int .i64 0, .int .i64 1, .int .i64 2, .int .i64 1, .int .i64 5]] W (Tells false W)) := fun W => hard tA W
  go_wp2_with (fail)
  with_reducible refine (K6.out _).mono ?_
  rintro e w6 ⟨rfl, hb6⟩
  have HB6 := Lib.hid (HB5.out.trans (hb6.mono HB5.out.size))
  clear hb6
  go_wp2
  go_ret
  exact ⟨rfl, HB6.out⟩
end Go.Proofs.Ytkldpbehjbecnaa
