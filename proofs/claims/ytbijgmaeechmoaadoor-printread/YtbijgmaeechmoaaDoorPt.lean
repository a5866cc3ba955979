/- The program's line of a task. -/
import Derived.Test.YtbijgmaeechmoaaDoorBn
import Derived.Test.YtbijgmaeechmoaaDoorKLf
import Derived.Deep.DeepCutAuto
namespace Go.Proofs.YtbijgmaeechmoaaDoor
open Go.RowKit Kx
set_option maxRecDepth 100000

/-- A task whose numbers are ints of the machine, and whose name is short. -/
structure Room (t : Tk) : Prop where
  name : t.name.size ≤ 1000
  T : Wide t.T
  D : Wide t.D
  C : Wide t.C
  A : Wide t.A
  Seg : Wide t.Seg
  Cost : Wide t.Cost
  M : Wide t.M
  K : Wide t.K
  Prio : Wide t.Prio
theorem modeW_len (m : Int) : (modeW m).length ≤ 6 := by
  unfold modeW
  repeat' split
  all_goals decide
theorem three_wide {a b c : Int} (h1 : Wide a) (h2 : Wide b) (h3 : Wide c) : ∀ n ∈ [a, b, c], Wide n := fun n hn => by
  simp only [List.mem_cons, List.not_mem_nil, or_false] at hn
  rcases hn with rfl | rfl | rfl <;> assumption
theorem six_wide {a b c d e f : Int} (h1 : Wide a) (h2 : Wide b) (h3 : Wide c) (h4 : Wide d) (h5 : Wide e) (h6 : Wide f) : ∀ n ∈ [a, b, c, d, e, f], Wide n := fun n hn => by
  simp only [List.mem_cons, List.not_mem_nil, or_false] at hn
  rcases hn with rfl | rfl | rfl | rfl | rfl | rfl <;> assumption
theorem name_len (s : ByteArray) : s.data.toList.length = s.size := by rw [Array.length_toList]; rfl
theorem lineW_len {t : Tk} (h : Room t) : (lineW t).length ≤ 1400 := by
  have h1 := numsW_len _ (three_wide h.T h.D h.C)
  have h2 := numsW_len _ (six_wide h.A h.Seg h.Cost h.M h.K h.Prio)
  have h3 := modeW_len t.Mode
  have h4 := name_len t.name
  have h5 := h.name
  have h6 : sTask.length = 4 := rfl
  simp only [List.length_cons, List.length_nil] at h1 h2
  simp only [lineW, List.length_append, List.length_cons]
  omega
/-- What was written so far. -/
structure Now (B b : Nat) (l : List UInt8) (w W : World) : Prop where
  bld : Bld B b l W
  bel : Below B w W
  kept : Lib.OthersKept 5 (some b) w W
theorem Now.then {B b : Nat} {l l' : List UInt8} {v : Value} {w W W' : World} {e : Ending} (h : Now B b l w W) (k : Wrote v B b l' W e W') : Now B b l' w W' := ⟨k.2.1, h.bel.trans k.2.2.1, h.kept.trans k.2.2.2⟩
theorem Now.ge {B b : Nat} {l : List UInt8} {w W : World} (h : Now B b l w W) (hB : B ≤ w.heap.size) : B ≤ W.heap.size := Nat.le_trans hB h.bel.size

set_option maxHeartbeats 4000000 in
theorem putTask (B b : Nat) (l : List UInt8) (t : Tk) (w : World) (h : Bld B b l w) (hr : Room t) (hlen : l.length ≤ 500000) (hB : B ≤ w.heap.size) (ht : TabB B w) :
    Calls Tryd.prog 22 #[.pointer (some ⟨b, 0, none⟩), aggK t] w (Wrote (.tuple #[]) B b (l ++ lineW t) w) := by
  have HLEN := Lib.hid hlen
  have HR := Lib.hid hr
  obtain ⟨n, tT, tD, tC, tA, tS, tc, tM, tK, tO, tP⟩ := t
  have hW3 := Lib.hid (three_wide hr.T hr.D hr.C)
  have hW6 := Lib.hid (six_wide hr.A hr.Seg hr.Cost hr.M hr.K hr.Prio)
  have HN3 := Lib.hid (numsW_len _ hW3.out)
  have hnm : n.size ≤ 1000 := hr.name
  have hmo := Lib.hid (modeW_len tO)
  have HE := Lib.hid (show l ++ lineW ⟨n, tT, tD, tC, tA, tS, tc, tM, tK, tO, tP⟩ = l ++ [116, 97, 115, 107] ++ 32 :: n.data.toList ++ numsW [tT, tD, tC] ++ 32 :: modeW tO ++ numsW [tA, tS, tc, tM, tK, tP] by simp [lineW, sTask])
  simp only [aggK] at hW3 hW6 HN3 ⊢
  have hnl := Lib.hid (name_len n)
  obtain ⟨p, hp⟩ : ∃ p, p = w.heap.size := ⟨_, rfl⟩
  have HP := Lib.hid hp
  have hpb : p ≠ b := by have := h.lt; omega
  obtain ⟨V, hV⟩ : ∃ V, V = w.alloc (.cells #[.string n, .int .i64 tT, .int .i64 tD, .int .i64 tC, .int .i64 tA, .int .i64 tS, .int .i64 tc, .int .i64 tM, .int .i64 tK, .int .i64 tO, .int .i64 tP] 26) := ⟨_, rfl⟩
  have hbV : Below w.heap.size w V := by rw [hV]; exact (Below.refl _ _).alloc (Nat.le_refl _) _
  have HL := Lib.hid (show Lies V p 26 #[.string n, .int .i64 tT, .int .i64 tD, .int .i64 tC, .int .i64 tA, .int .i64 tS, .int .i64 tc, .int .i64 tM, .int .i64 tK, .int .i64 tO, .int .i64 tP] by rw [hV, hp]; exact Lies.made _ _ _)
  have HNow := Lib.hid (Now.mk (h.on hbV) (hbV.mono hB) (kept_of hbV) : Now B b l w V)
  have HT := Lib.hid ht
  have HV := Lib.hid hV
  have K1 := Lib.hid (writeText B b l ⟨#[116, 97, 115, 107]⟩ V HNow.out.bld (by show l.length + 4 ≤ 1000000; omega) (HNow.out.ge hB))
  clear h hr hlen ht hp hV hbV
  go_enter Tryd.func22, Tryd.ntmps22
  go_upto_region 1 with fail
  rw [← HV.out]
  rw [← HP.out]
  go_wp2_with (fail)
  with_reducible refine K1.out.mono ?_
  intro e w1 hw1
  obtain ⟨he, hw1'⟩ := hw1
  subst he
  have N1 := Lib.hid (HNow.out.then (e := .returned (.tuple #[])) (v := .tuple #[]) ⟨rfl, hw1'⟩)
  have L1 := Lib.hid (HL.out.kept hw1'.2.2 hpb (by decide))
  clear hw1'
  have K2 := Lib.hid (putWord B b _ n w1 N1.out.bld (by have := HLEN.out; simp; omega) (N1.out.ge hB))
  have x0 : w1.cell? ⟨p, 0, none⟩ = some (.string n) := L1.out.cell 0
  go_wp2_with (fail)
  with_reducible refine K2.out.mono ?_
  intro e w2 hw2
  obtain ⟨he, hw2'⟩ := hw2
  subst he
  have N2 := Lib.hid (N1.out.then (e := .returned (.tuple #[])) (v := .tuple #[]) ⟨rfl, hw2'⟩)
  have L2 := Lib.hid (L1.out.kept hw2'.2.2 hpb (by decide))
  clear hw2' x0
  have K3 := Lib.hid (putRow B b [tT, tD, tC] _ w2 N2.out.bld hW3.out (by have := HLEN.out; have := hnl.out; simp; omega) (N2.out.ge hB) (HT.out.on N2.out.bel))
  have y1 : w2.cell? ⟨p, 1, none⟩ = some (.int .i64 tT) := L2.out.cell 1
  have y2 : w2.cell? ⟨p, 2, none⟩ = some (.int .i64 tD) := L2.out.cell 2
  have y3 : w2.cell? ⟨p, 3, none⟩ = some (.int .i64 tC) := L2.out.cell 3
  simp only [intsV, List.map_cons, List.map_nil, List.length_cons, List.length_nil] at K3
  go_wp2_with (fail)
  with_reducible refine K3.out.mono ?_
  intro e w3 hw3
  obtain ⟨he, hw3'⟩ := hw3
  subst he
  have N3 := Lib.hid (N2.out.then (e := .returned (.tuple #[])) (v := .tuple #[]) ⟨rfl, hw3'⟩)
  have L3 := Lib.hid (L2.out.kept hw3'.2.2 hpb (by decide))
  clear hw3' y1 y2 y3 K1 K2 K3 L1 L2 N1 N2
  have y9 : w3.cell? ⟨p, 9, none⟩ = some (.int .i64 tO) := L3.out.cell 9
  have K4 := Lib.hid (mode_ tO w3)
  have K5 := Lib.hid (putWord B b _ ⟨(modeW tO).toArray⟩ w3 N3.out.bld (by
    have := HLEN.out; have := hnl.out; have := HN3.out; have := hmo.out
    rw [size_text]
    simp only [List.length_append, List.length_cons, List.length_nil] at *
    omega) (N3.out.ge hB))
  go_wp2_with (fail)
  with_reducible refine K4.out.mono ?_
  rintro e w3' ⟨rfl, rfl⟩
  go_wp2_with (fail)
  with_reducible refine K5.out.mono ?_
  intro e w4 hw4
  obtain ⟨he, hw4'⟩ := hw4
  subst he
  have N4 := Lib.hid (N3.out.then (e := .returned (.tuple #[])) (v := .tuple #[]) ⟨rfl, hw4'⟩)
  have L4 := Lib.hid (L3.out.kept hw4'.2.2 hpb (by decide))
  clear hw4' y9 K4 K5 L3 N3
  have z4 : w4.cell? ⟨p, 4, none⟩ = some (.int .i64 tA) := L4.out.cell 4
  have z5 : w4.cell? ⟨p, 5, none⟩ = some (.int .i64 tS) := L4.out.cell 5
  have z6 : w4.cell? ⟨p, 6, none⟩ = some (.int .i64 tc) := L4.out.cell 6
  have z7 : w4.cell? ⟨p, 7, none⟩ = some (.int .i64 tM) := L4.out.cell 7
  have z8 : w4.cell? ⟨p, 8, none⟩ = some (.int .i64 tK) := L4.out.cell 8
  have z10 : w4.cell? ⟨p, 10, none⟩ = some (.int .i64 tP) := L4.out.cell 10
  have K6 := Lib.hid (putRow B b [tA, tS, tc, tM, tK, tP] _ w4 N4.out.bld hW6.out (by
    have := HLEN.out; have := hnl.out; have := HN3.out; have := hmo.out
    simp only [List.length_append, List.length_cons, List.length_nil] at *
    omega) (N4.out.ge hB) (HT.out.on N4.out.bel))
  simp only [intsV, List.map_cons, List.map_nil, List.length_cons, List.length_nil] at K6
  go_wp2_with (fail)
  with_reducible refine K6.out.mono ?_
  intro e w5 hw5
  obtain ⟨he, hw5'⟩ := hw5
  subst he
  have N5 := Lib.hid (N4.out.then (e := .returned (.tuple #[])) (v := .tuple #[]) ⟨rfl, hw5'⟩)
  clear hw5' K6 z4 z5 z6 z7 z8 z10
  go_wp2
  go_end0
  refine ⟨rfl, ?_, N5.out.bel, N5.out.kept⟩
  rw [HE.out]
  exact N5.out.bld
end Go.Proofs.YtbijgmaeechmoaaDoor
