/- What is written into a builder: a byte, a text, a word, numbers. -/
import Derived.Test.YtbijgmaeechmoaaDoorBl
import Derived.Test.YtbijgmaeechmoaaDoorPr
namespace Go.Proofs.YtbijgmaeechmoaaDoor
open Go.RowKit
set_option maxRecDepth 100000

/-- Behind the check the builder is known as one in use. -/
theorem check (B b : Nat) (bs : List Value) (w : World) (h : Lib.IsBuilderF 45 5 B b bs w) :
    Calls Tryd.prog 32 #[.pointer (some ⟨b, 0, none⟩)] w fun e w' => e = .returned (.tuple #[]) ∧ Lib.BuilderAtF 45 5 B b (.pointer (some ⟨b, 0, none⟩)) bs w' ∧ Below B w w' ∧ Lib.OthersKept 5 (some b) w w' := by
  rcases h with h | h
  · refine (check_new b w h.cell0 h.shape h.frozen0).mono ?_
    rintro e w' ⟨rfl, rfl⟩
    exact ⟨rfl, h.used _, (Below.refl B w).setCell (p := ⟨b, 0, none⟩) h.1 _, (Lib.OthersKept.refl _ _ w).setCell ⟨b, 0, none⟩ rfl _⟩
  · refine (check_used b w h.cell0).mono ?_
    rintro e w' ⟨rfl, rfl⟩
    exact ⟨rfl, h, Below.refl B _, Lib.OthersKept.refl _ _ _⟩
theorem infoU8 : ∃ i, Tryd.prog.info? 5 = some i ∧ i.zero = some (.int .u8 0) ∧ i.size = 1 ∧ i.bytes = 1 := by
  obtain ⟨i, hi, he⟩ := Option.map_eq_some_iff.1 moreB.infoByte
  simp only [Prod.mk.injEq] at he
  exact ⟨i, hi, he.1, he.2.1, he.2.2⟩
theorem lt_of_heap {w : World} {b : Nat} {o : Obj} (h : w.heap[b]? = some o) : b < w.heap.size := (Array.getElem?_eq_some_iff.1 h).1

set_option maxHeartbeats 2000000 in
theorem writeByte (B b : Nat) (l : List UInt8) (c : UInt8) (k : Int) (hk : k = (c.toNat : Int)) (w : World) (h : Bld B b l w) (hlen : l.length + 1 ≤ 1000000) (hB : B ≤ w.heap.size) :
    Calls Tryd.prog 21 #[.pointer (some ⟨b, 0, none⟩), .int .u8 k] w (Wrote .nilIface B b (l ++ [c]) w) := by
  obtain ⟨i0, hi, hz0, hz1, hz2⟩ := infoU8
  have HBS := Lib.hid (show Lib.byteCells (l ++ [c]) = Lib.byteCells l ++ [.int .u8 k] by rw [hk]; simp [Lib.byteCells])
  have hbl : (Lib.byteCells l).length + 1 ≤ 1000000 := by rw [Lib.byteCells_length l]; exact hlen
  unfold Bld at h
  generalize Lib.byteCells l = bs at h HBS hbl
  have KC := Lib.hid (check B b bs w h)
  clear h hk
  go_enter Tryd.func21, Tryd.ntmps21
  go_wp2_with (fail)
  with_reducible refine KC.out.mono ?_
  rintro e w1 ⟨rfl, ⟨hBb, v, hbk, hown, hne⟩, hb1, hk1⟩
  have hlt := lt_of_heap hbk
  have hs1 := hb1.size
  have c0 : w1.cell? ⟨b, 0, none⟩ = some (.pointer (some ⟨b, 0, none⟩)) := by rw [Lib.cell_of_heap hbk]; rfl
  have c1 : w1.cell? ⟨b, 1, none⟩ = some v := by rw [Lib.cell_of_heap hbk]; rfl
  go_wp2_with (at_builtin; refine wpList_append_ownF _ rfl _ _ 40 rfl B 5 i0 (.int .u8 0) 1 1 Tryd.underlying40 hi hz0 hz1 hz2 rfl (by decide) _ _ _ rfl (hown.alloc _) ⟨w1.heap.size, 0, none⟩ 1 1 [.int .u8 k] rfl rfl ?q1 ?q2 ?q3 ?q4 ?q5 ?_)
  case q1 =>
    intro j u hj
    match j, hj with
    | 0, hj => cases hj; simp [Addr.add]
  case q2 => intro u hu; rw [List.mem_singleton.1 hu]; rfl
  case q3 => unfold maxLen; omega
  case q4 => omega
  case q5 => simp; omega
  intro v' w2 hown' hgrow _
  have hb2 : w2.heap[b]? = some (.cells #[.pointer (some ⟨b, 0, none⟩), v] 45 (0, 0)) := by
    rw [hgrow.block b (by simp; omega) (fun e => hne e.symm), Lib.alloc_old w1 _ b hlt]; exact hbk
  have d1 : w2.cell? ⟨b, 1, none⟩ = some v := by rw [Lib.cell_of_heap hb2]; rfl
  have f1 : w2.frozen? ⟨b, 1, none⟩ = false := Lib.frozen_of_heap hb2 1
  obtain ⟨g, cap, rfl⟩ : ∃ g cap, v' = .slice (some ⟨g, 0, none⟩) (bs.length + 1) cap := by
    rcases hown'.2 with ⟨_, h0⟩ | ⟨g, cap, cur, fz, hv, _⟩
    · omega
    · exact ⟨g, cap, hv⟩
  go_wp2
  go_ret
  refine ⟨rfl, ?_, ?_, ?_⟩
  · unfold Bld
    rw [HBS.out]
    exact .inr (Lib.BuilderAtF.put hBb hb2 (bs' := bs ++ [.int .u8 k]) (by simpa using hown') (by decide))
  · exact ((hb1.alloc (by omega) _).grown hgrow (by simp; omega) (fun x hx => (hown.lt x hx).1)).setCell (p := ⟨b, 1, none⟩) hBb _
  · exact ((hk1.alloc _).grown hgrow (Lib.ownsRowF_kind (hown.alloc _))).setCell ⟨b, 1, none⟩ rfl _

set_option maxHeartbeats 2000000 in
theorem writeText (B b : Nat) (l : List UInt8) (s : ByteArray) (w : World) (h : Bld B b l w) (hlen : l.length + s.size ≤ 1000000) (hB : B ≤ w.heap.size) :
    Calls Tryd.prog 19 #[.pointer (some ⟨b, 0, none⟩), .string s] w (Wrote (.tuple #[.int .i64 s.size, .nilIface]) B b (l ++ s.data.toList) w) := by
  obtain ⟨i0, hi, hz0, hz1, hz2⟩ := infoU8
  have HBS := Lib.hid (show Lib.byteCells (l ++ s.data.toList) = Lib.byteCells l ++ Lib.strCells s from Lib.byteCells_append _ _)
  have hbl : (Lib.byteCells l).length + s.size ≤ 1000000 := by rw [Lib.byteCells_length l]; exact hlen
  unfold Bld at h
  generalize Lib.byteCells l = bs at h HBS hbl
  have KC := Lib.hid (check B b bs w h)
  clear h
  go_enter Tryd.func19, Tryd.ntmps19
  go_wp2_with (fail)
  with_reducible refine KC.out.mono ?_
  rintro e w1 ⟨rfl, ⟨hBb, v, hbk, hown, hne⟩, hb1, hk1⟩
  have hlt := lt_of_heap hbk
  have hs1 := hb1.size
  have c0 : w1.cell? ⟨b, 0, none⟩ = some (.pointer (some ⟨b, 0, none⟩)) := by rw [Lib.cell_of_heap hbk]; rfl
  have c1 : w1.cell? ⟨b, 1, none⟩ = some v := by rw [Lib.cell_of_heap hbk]; rfl
  go_wp2_with (at_builtin; refine Lib.wpList_append_own_stringF _ rfl _ _ 40 9 rfl B 5 i0 Tryd.underlying40 Tryd.underlying9 hi hz0 hz1 hz2 _ _ _ rfl hown s rfl ?q3 ?q4 ?q5 ?_)
  case q3 => unfold maxLen; omega
  case q4 => omega
  case q5 => omega
  intro v' w2 hown' hgrow _
  have hb2 : w2.heap[b]? = some (.cells #[.pointer (some ⟨b, 0, none⟩), v] 45 (0, 0)) := by
    rw [hgrow.block b hlt (fun e => hne e.symm)]; exact hbk
  have d1 : w2.cell? ⟨b, 1, none⟩ = some v := by rw [Lib.cell_of_heap hb2]; rfl
  have f1 : w2.frozen? ⟨b, 1, none⟩ = false := Lib.frozen_of_heap hb2 1
  obtain ⟨ao, n', cap, rfl⟩ : ∃ ao n' cap, v' = .slice ao n' cap := by
    rcases hown'.2 with ⟨hv, _⟩ | ⟨g, cap, cur, fz, hv, _⟩
    · exact ⟨_, _, _, hv⟩
    · exact ⟨_, _, _, hv⟩
  go_wp2
  go_ret2
  refine ⟨rfl, ?_, ?_, ?_⟩
  · unfold Bld
    rw [HBS.out]
    exact .inr (Lib.BuilderAtF.put hBb hb2 (bs' := bs ++ Lib.strCells s) (by simpa [Lib.strCells_length] using hown') (by decide))
  · exact (hb1.grown hgrow (by omega) (fun x hx => (hown.lt x hx).1)).setCell (p := ⟨b, 1, none⟩) hBb _
  · exact (hk1.grown hgrow (Lib.ownsRowF_kind hown)).setCell ⟨b, 1, none⟩ rfl _

/-- One write behind the other. -/
theorem Wrote.step {v v' : Value} {B b : Nat} {l l' : List UInt8} {w w1 w2 : World} {e e' : Ending} (h : Wrote v B b l w e w1) (k : Wrote v' B b l' w1 e' w2) : Bld B b l' w2 ∧ Below B w w2 ∧ Lib.OthersKept 5 (some b) w w2 :=
  ⟨k.2.1, h.2.2.1.trans k.2.2.1, h.2.2.2.trans k.2.2.2⟩

set_option maxHeartbeats 1000000 in
theorem putWord (B b : Nat) (l : List UInt8) (s : ByteArray) (w : World) (h : Bld B b l w) (hlen : l.length + s.size + 1 ≤ 1000000) (hB : B ≤ w.heap.size) :
    Calls Tryd.prog 33 #[.pointer (some ⟨b, 0, none⟩), .string s] w (Wrote (.tuple #[]) B b (l ++ 32 :: s.data.toList) w) := by
  have K1 := Lib.hid (writeByte B b l 32 32 rfl w h (by omega) hB)
  have K2 := Lib.hid (fun w1 (h1 : Bld B b (l ++ [32]) w1) (hB1 : B ≤ w1.heap.size) => writeText B b (l ++ [32]) s w1 h1 (by simp; omega) hB1)
  have HE := Lib.hid (show l ++ 32 :: s.data.toList = l ++ [32] ++ s.data.toList by simp)
  clear h
  go_enter Tryd.func33, Tryd.ntmps33
  go_wp2_with (fail)
  with_reducible refine K1.out.mono ?_
  rintro e w1 ⟨rfl, h1, hb1, hk1⟩
  have H1 := Lib.hid hb1
  have HK1 := Lib.hid hk1
  have KK := Lib.hid (K2.out w1 h1 (by have := hb1.size; omega))
  clear h1 hb1 hk1
  go_wp2_with (fail)
  with_reducible refine KK.out.mono ?_
  rintro e w2 ⟨rfl, h2, hb2, hk2⟩
  have H2 := Lib.hid h2
  have HB2 := Lib.hid (H1.out.trans hb2)
  have HK2 := Lib.hid (HK1.out.trans hk2)
  clear h2 hb2 hk2
  go_wp2
  go_end0
  exact ⟨rfl, by rw [HE.out]; exact H2.out, HB2.out, HK2.out⟩
end Go.Proofs.YtbijgmaeechmoaaDoor
