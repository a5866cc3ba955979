/- A text that is put together (strings.Builder) and a number's digits (strconv.Itoa): the library's contracts at this program's numbers, and our own walks of the writers. What is written into a builder: a byte, a text, a word, numbers. A task's line is put into a builder. The program's line of a task. -/
import Derived.Test.YtbijgmaeechmoaaDoorMem
import Derived.Shelf.LaysM
import Derived.Shelf.Strings.BuilderK
import Derived.Shelf.Strconv.Itoa3
import Derived.Lib.AppendIntMem
import Derived.Lib.ItoaLen
import Derived.Test.YtbijgmaeechmoaaDoorPr
import Derived.Test.YtbijgmaeechmoaaDoorKMk
import Derived.Test.YtbijgmaeechmoaaDoorKLf
import Derived.Deep.DeepCutAuto
namespace Go.Proofs.YtbijgmaeechmoaaDoor
open Go.RowKit Go.Shelf
set_option maxRecDepth 100000

def numbersB : Ren := ⟨fun | 169 => 23 | n => n, fun | 70 => 43 | 9 => 9 | 0 => 0 | 72 => 45 | 37 => 40 | 127 => 69 | 3 => 3 | 5 => 5 | n => n, fun | n => n⟩
theorem laidB : Lays.n169 Tryd.prog numbersB where
  mixed := by kernel_rfl
  f169 := Tryd.func23.trans (congrArg some (by kernel_rfl))
  t0 := Tryd.underlying0
  a0 := Tryd.isAgg0
  z0 := Tryd.sizeOf0
  v0 := Tryd.zeroValue0
  t3 := Tryd.underlying3
  a3 := Tryd.isAgg3
  z3 := Tryd.sizeOf3
  v3 := Tryd.zeroValue3
  t9 := Tryd.underlying9
  a9 := Tryd.isAgg9
  z9 := Tryd.sizeOf9
  v9 := Tryd.zeroValue9
  t37 := Tryd.underlying40
  a37 := Tryd.isAgg40
  z37 := Tryd.sizeOf40
  v37 := Tryd.zeroValue40
  t70 := Tryd.underlying43
  a70 := Tryd.isAgg43
  z70 := Tryd.sizeOf43
  v70 := Tryd.zeroValue43
  t72 := Tryd.underlying45
  a72 := Tryd.isAgg45
  z72 := Tryd.sizeOf45
  v72 := Tryd.zeroValue45
  t127 := Tryd.underlying69
  a127 := Tryd.isAgg69
  z127 := Tryd.sizeOf69
  v127 := Tryd.zeroValue69
theorem moreB : Builder.Extra Tryd.prog numbersB where
  sizeBuilder := by kernel_rfl
  liesBuilder := by kernel_rfl
  t5 := Tryd.underlying5
  a5 := Tryd.isAgg5
  z5 := Tryd.sizeOf5
  v5 := Tryd.zeroValue5
  infoByte := by kernel_rfl
  cellsByte := by kernel_rfl
  sizeByte := by kernel_rfl
  neB5 := by decide
def numbersI : Ren := ⟨fun | 171 => 34 | 243 => 47 | 246 => 66 | 283 => 73 | 284 => 74 | 285 => 75 | 286 => 76 | 129 => 81 | 317 => 80 | 318 => 82 | 319 => 83 | 320 => 84 | 337 => 85 | 338 => 86 | n => n, fun | 3 => 3 | 9 => 9 | 2 => 2 | 4 => 4 | 171 => 103 | 0 => 0 | 53 => 71 | 37 => 40 | 5 => 5 | 173 => 106 | 212 => 111 | 51 => 112 | 20 => 20 | 213 => 113 | 46 => 114 | 232 => 117 | 233 => 118 | n => n, fun | 17 => 0 | 18 => 1 | 19 => 2 | n => n⟩
theorem laidI : LaysM.n171 Tryd.prog numbersI where
  mixed := by kernel_rfl
  f129 := Tryd.func81.trans (congrArg some (by kernel_rfl))
  f171 := Tryd.func34.trans (congrArg some (by kernel_rfl))
  f243 := Tryd.func47.trans (congrArg some (by kernel_rfl))
  f246 := Tryd.func66.trans (congrArg some (by kernel_rfl))
  f283 := Tryd.func73.trans (congrArg some (by kernel_rfl))
  f284 := Tryd.func74.trans (congrArg some (by kernel_rfl))
  f285 := Tryd.func75.trans (congrArg some (by kernel_rfl))
  f286 := Tryd.func76.trans (congrArg some (by kernel_rfl))
  f317 := Tryd.func80.trans (congrArg some (by kernel_rfl))
  f318 := Tryd.func82.trans (congrArg some (by kernel_rfl))
  f319 := Tryd.func83.trans (congrArg some (by kernel_rfl))
  f320 := Tryd.func84.trans (congrArg some (by kernel_rfl))
  f337 := Tryd.func85.trans (congrArg some (by kernel_rfl))
  f338 := Tryd.func86.trans (congrArg some (by kernel_rfl))
  t0 := Tryd.underlying0
  a0 := Tryd.isAgg0
  z0 := Tryd.sizeOf0
  v0 := Tryd.zeroValue0
  t2 := Tryd.underlying2
  a2 := Tryd.isAgg2
  z2 := Tryd.sizeOf2
  v2 := Tryd.zeroValue2
  t3 := Tryd.underlying3
  a3 := Tryd.isAgg3
  z3 := Tryd.sizeOf3
  v3 := Tryd.zeroValue3
  t4 := Tryd.underlying4
  a4 := Tryd.isAgg4
  z4 := Tryd.sizeOf4
  v4 := Tryd.zeroValue4
  t5 := Tryd.underlying5
  a5 := Tryd.isAgg5
  z5 := Tryd.sizeOf5
  v5 := Tryd.zeroValue5
  t9 := Tryd.underlying9
  a9 := Tryd.isAgg9
  z9 := Tryd.sizeOf9
  v9 := Tryd.zeroValue9
  t20 := Tryd.underlying20
  a20 := Tryd.isAgg20
  z20 := Tryd.sizeOf20
  v20 := Tryd.zeroValue20
  t37 := Tryd.underlying40
  a37 := Tryd.isAgg40
  z37 := Tryd.sizeOf40
  v37 := Tryd.zeroValue40
  t46 := Tryd.underlying114
  a46 := Tryd.isAgg114
  z46 := Tryd.sizeOf114
  v46 := Tryd.zeroValue114
  t51 := Tryd.underlying112
  a51 := Tryd.isAgg112
  z51 := Tryd.sizeOf112
  v51 := Tryd.zeroValue112
  t53 := Tryd.underlying71
  a53 := Tryd.isAgg71
  z53 := Tryd.sizeOf71
  v53 := Tryd.zeroValue71
  t171 := Tryd.underlying103
  a171 := Tryd.isAgg103
  z171 := Tryd.sizeOf103
  v171 := Tryd.zeroValue103
  t173 := Tryd.underlying106
  a173 := Tryd.isAgg106
  z173 := Tryd.sizeOf106
  v173 := Tryd.zeroValue106
  t212 := Tryd.underlying111
  a212 := Tryd.isAgg111
  z212 := Tryd.sizeOf111
  v212 := Tryd.zeroValue111
  t213 := Tryd.underlying113
  a213 := Tryd.isAgg113
  z213 := Tryd.sizeOf113
  t232 := Tryd.underlying117
  a232 := Tryd.isAgg117
  z232 := Tryd.sizeOf117
  v232 := Tryd.zeroValue117
  t233 := Tryd.underlying118
  a233 := Tryd.isAgg118
  z233 := Tryd.sizeOf118
  v233 := Tryd.zeroValue118
  g17 := by kernel_rfl
  g18 := by kernel_rfl
  g19 := by kernel_rfl
  i0 := by kernel_rfl
  i2 := by kernel_rfl
  i3 := by kernel_rfl
  i4 := by kernel_rfl
  i5 := by kernel_rfl
  i9 := by kernel_rfl
  i20 := by kernel_rfl
  i37 := by kernel_rfl
  i46 := by kernel_rfl
  i51 := by kernel_rfl
  i53 := by kernel_rfl
  i171 := by kernel_rfl
  i173 := by kernel_rfl
  i212 := by kernel_rfl
  i232 := by kernel_rfl
  i233 := by kernel_rfl
  m17 := by kernel_rfl
  m18 := by kernel_rfl
  m19 := by kernel_rfl

/-- The builder in block b holds these bytes; its blocks are from B on. -/
def Bld (B b : Nat) (l : List UInt8) (w : World) : Prop := Lib.IsBuilderF 45 5 B b (Lib.byteCells l) w
/-- It answers v; behind it the builder holds l; nothing below B has turned, and no other block but rows of bytes. -/
def Wrote (v : Value) (B b : Nat) (l : List UInt8) (w : World) (e : Ending) (w' : World) : Prop := e = .returned v ∧ Bld B b l w' ∧ Below B w w' ∧ Lib.OthersKept 5 (some b) w w'
/-- The table of powers of ten is as it was laid, and stays so while nothing below B turns. -/
abbrev Tab (w : World) : Prop := Lib.TabIs Tryd.prog w "internal/strconv.uint64pow10" .u64 Lib.pow10Tab
abbrev TabB (B : Nat) (w : World) : Prop := Lib.TabBelow Tryd.prog B w "internal/strconv.uint64pow10" .u64 Lib.pow10Tab
theorem Tab.from {w : World} (h : Tab w) : TabB w.heap.size w := Lib.tabBelow_of_tabIs h
theorem Tab.below {w w' : World} (h : Tab w) (hb : Below w.heap.size w w') : Tab w' := h.from.on hb |>.here
theorem grown_of {w w' : World} {row : Option Nat} (hb : Below w.heap.size w w') : w.grownBy w' row := ⟨hb.os, hb.tape, hb.output, hb.size, fun k hk _ => hb.block k hk⟩
theorem atF_on {B b : Nat} {p : Value} {bs : List Value} {w w' : World} (h : Lib.BuilderAtF 45 5 B b p bs w) (hb : Below w.heap.size w w') : Lib.BuilderAtF 45 5 B b p bs w' := by
  have hlt := h.lt
  obtain ⟨hB, v, hbk, hown, hne⟩ := h
  exact ⟨hB, v, by rw [hb.block b hlt]; exact hbk, hown.kept (row := none) (grown_of hb) (by
    cases hv : v.ownBlock with
    | none => exact .inl rfl
    | some k => exact .inr (by simp)), hne⟩
theorem Bld.on {B b : Nat} {l : List UInt8} {w w' : World} (h : Bld B b l w) (hb : Below w.heap.size w w') : Bld B b l w' :=
  h.elim (fun x => .inl (atF_on x hb)) (fun x => .inr (atF_on x hb))
theorem Bld.lt {B b : Nat} {l : List UInt8} {w : World} (h : Bld B b l w) : b < w.heap.size := h.elim (fun x => x.lt) (fun x => x.lt)
theorem Bld.from {B b : Nat} {l : List UInt8} {w : World} (h : Bld B b l w) : B ≤ b := h.elim (fun x => x.1) (fun x => x.1)
theorem Bld.new (w : World) {B : Nat} (hB : B ≤ w.heap.size) : Bld B w.heap.size [] (w.alloc (.cells #[.pointer none, .slice none 0 0] 45)) :=
  .inl ⟨hB, .slice none 0 0, Lies.made _ _ _, World.ownsRowF_nil _ _ _ _, by simp [Value.ownBlock]⟩
theorem kept_of {b : Nat} {w w' : World} (hb : Below w.heap.size w w') : Lib.OthersKept 5 (some b) w w' := fun k o hk _ _ => by
  rw [hb.block k (Array.getElem?_eq_some_iff.1 hk).1]; exact hk
/-- Another block than the builder's and no row of bytes is as it was. -/
theorem Lies.kept {w w' : World} {b g : Nat} {t : TypeId} {cs : Array Value} (h : Lies w g t cs) (hk : Lib.OthersKept 5 (some b) w w') (hg : g ≠ b) (ht : t ≠ 5) : Lies w' g t cs :=
  hk g _ h (by simpa using hg) (fun c fz e => by cases e; exact ht rfl)

theorem string_ (B b : Nat) (l : List UInt8) (w : World) (h : Bld B b l w) (hB : B ≤ w.heap.size) : Calls Tryd.prog 23 #[.pointer (some ⟨b, 0, none⟩)] w (Wrote (.string ⟨l.toArray⟩) B b l w) :=
  Any.Builder_String_any_k laidB moreB B b l w h hB
theorem itoa_ (n : Int) (h0 : -9223372036854775808 ≤ n) (h1 : n ≤ 9223372036854775807) (w : World) (h : Tab w) :
    Calls Tryd.prog 34 #[.int .i64 n] w fun e w' => e = .returned (.string ⟨(Lib.itoa n).toArray⟩) ∧ Below w.heap.size w w' :=
  (Any.strconv_Itoa laidI n h0 h1 w h).mono fun e w' ⟨he, k, os, hw⟩ => ⟨he, by rw [hw]; exact Lib.below_grow _ w (Nat.le_refl _) k os⟩

theorem sizeB : ∃ j, Tryd.prog.info? 45 = some j ∧ j.size = 2 := by
  obtain ⟨j, hj, hs⟩ := Option.map_eq_some_iff.1 moreB.sizeBuilder
  exact ⟨j, hj, hs⟩
set_option maxHeartbeats 1000000 in
theorem check_used (b : Nat) (w : World) (h0 : w.cell? ⟨b, 0, none⟩ = some (.pointer (some ⟨b, 0, none⟩))) :
    Calls Tryd.prog 32 #[.pointer (some ⟨b, 0, none⟩)] w (Says (.tuple #[]) w) := by
  obtain ⟨j, hj, _⟩ := sizeB
  go_enter Tryd.func32, Tryd.ntmps32
  go_wp2
  rw [Lib.run_neq_ptr_same w _ Tryd.underlying43 hj]
  go_wp2
  go_end0
  exact ⟨rfl, rfl⟩
set_option maxHeartbeats 1000000 in
theorem check_new (b : Nat) (w : World) (h0 : w.cell? ⟨b, 0, none⟩ = some (.pointer none)) (hsh : w.shape? b = some (45, 2)) (hfz : w.frozen? ⟨b, 0, none⟩ = false) :
    Calls Tryd.prog 32 #[.pointer (some ⟨b, 0, none⟩)] w fun e w' => e = .returned (.tuple #[]) ∧ w' = w.setCell ⟨b, 0, none⟩ (.pointer (some ⟨b, 0, none⟩)) := by
  obtain ⟨j, hj, hjs⟩ := sizeB
  go_enter Tryd.func32, Tryd.ntmps32
  go_wp2
  rw [Lib.run_to_unsafe w ⟨b, 0, none⟩ Tryd.underlying43 Tryd.underlying86 hj (by rw [hjs]; decide) hsh (Nat.zero_lt_succ 1)]
  simp only [Result.andThen]
  rw [Oper.upon_value]
  go_wp2
  rw [run_callFunc_extern Tryd.func46 (by kernel_rfl) (by kernel_rfl) (by kernel_rfl) (e := Extern.AbiNoEscape.same) (by kernel_rfl)]
  rw [Lib.run_noEscape]
  simp only [Result.andThen]
  rw [Oper.upon_value]
  go_wp2
  rw [Lib.run_from_unsafe w ⟨b, 0, none⟩ Tryd.underlying86 Tryd.underlying43 hj hsh moreB.liesBuilder]
  simp only [Result.andThen]
  rw [Oper.upon_value]
  go_wp2
  go_end0
  exact ⟨rfl, rfl⟩
end Go.Proofs.YtbijgmaeechmoaaDoor
namespace Go.Proofs.YtbijgmaeechmoaaDoor
open Go.RowKit
set_option maxRecDepth 100000

/-- Behind the check the builder is known as one in use. -/
theorem check (B b : Nat) (bs : List Value) (w : World) (h : Lib.IsBuilderF 45 5 B b bs w) :
    Calls Tryd.prog 32 #[.pointer (some ⟨b, 0, none⟩)] w fun e w' => e = .returned (.tuple #[]) ∧ Lib.BuilderAtF 45 5 B b (.pointer (some ⟨b, 0, none⟩)) bs w' ∧ Below B w w' ∧ Lib.OthersKept 5 (some b) w w' := by
  rcases h with h | h
  · refine (check_new b w h.cell0 h.shape h.frozen0).mono ?_
    rintro e w' ⟨rfl, rfl⟩
    exact ⟨rfl, h.used _, (Below.refl B w).setCell (p := ⟨b, 0, none⟩) h.1 _, (Lib.OthersKept.refl _ _ w).setCell ⟨b, 0, none⟩ rfl _⟩
  · refine (check_used b w h.cell0).mono ?_
    rintro e w' ⟨rfl, rfl⟩
    exact ⟨rfl, h, Below.refl B _, Lib.OthersKept.refl _ _ _⟩
theorem infoU8 : ∃ i, Tryd.prog.info? 5 = some i ∧ i.zero = some (.int .u8 0) ∧ i.size = 1 ∧ i.bytes = 1 := by
  obtain ⟨i, hi, he⟩ := Option.map_eq_some_iff.1 moreB.infoByte
  simp only [Prod.mk.injEq] at he
  exact ⟨i, hi, he.1, he.2.1, he.2.2⟩
theorem lt_of_heap {w : World} {b : Nat} {o : Obj} (h : w.heap[b]? = some o) : b < w.heap.size := (Array.getElem?_eq_some_iff.1 h).1

set_option maxHeartbeats 2000000 in
theorem writeByte (B b : Nat) (l : List UInt8) (c : UInt8) (k : Int) (hk : k = (c.toNat : Int)) (w : World) (h : Bld B b l w) (hlen : l.length + 1 ≤ 1000000) (hB : B ≤ w.heap.size) :
    Calls Tryd.prog 21 #[.pointer (some ⟨b, 0, none⟩), .int .u8 k] w (Wrote .nilIface B b (l ++ [c]) w) := by
  obtain ⟨i0, hi, hz0, hz1, hz2⟩ := infoU8
  have HBS := Lib.hid (show Lib.byteCells (l ++ [c]) = Lib.byteCells l ++ [.int .u8 k] by rw [hk]; simp [Lib.byteCells])
  have hbl : (Lib.byteCells l).length + 1 ≤ 1000000 := by rw [Lib.byteCells_length l]; exact hlen
  unfold Bld at h
  generalize Lib.byteCells l = bs at h HBS hbl
  have KC := Lib.hid (check B b bs w h)
  clear h hk
  go_enter Tryd.func21, Tryd.ntmps21
  go_wp2_with (fail)
  with_reducible refine KC.out.mono ?_
  rintro e w1 ⟨rfl, ⟨hBb, v, hbk, hown, hne⟩, hb1, hk1⟩
  have hlt := lt_of_heap hbk
  have hs1 := hb1.size
  have c0 : w1.cell? ⟨b, 0, none⟩ = some (.pointer (some ⟨b, 0, none⟩)) := by rw [Lib.cell_of_heap hbk]; rfl
  have c1 : w1.cell? ⟨b, 1, none⟩ = some v := by rw [Lib.cell_of_heap hbk]; rfl
  go_wp2_with (at_builtin; refine wpList_append_ownF _ rfl _ _ 40 rfl B 5 i0 (.int .u8 0) 1 1 Tryd.underlying40 hi hz0 hz1 hz2 rfl (by decide) _ _ _ rfl (hown.alloc _) ⟨w1.heap.size, 0, none⟩ 1 1 [.int .u8 k] rfl rfl ?q1 ?q2 ?q3 ?q4 ?q5 ?_)
  case q1 =>
    intro j u hj
    match j, hj with
    | 0, hj => cases hj; simp [Addr.add]
  case q2 => intro u hu; rw [List.mem_singleton.1 hu]; rfl
  case q3 => unfold maxLen; omega
  case q4 => omega
  case q5 => simp; omega
  intro v' w2 hown' hgrow _
  have hb2 : w2.heap[b]? = some (.cells #[.pointer (some ⟨b, 0, none⟩), v] 45 (0, 0)) := by
    rw [hgrow.block b (by simp; omega) (fun e => hne e.symm), Lib.alloc_old w1 _ b hlt]; exact hbk
  have d1 : w2.cell? ⟨b, 1, none⟩ = some v := by rw [Lib.cell_of_heap hb2]; rfl
  have f1 : w2.frozen? ⟨b, 1, none⟩ = false := Lib.frozen_of_heap hb2 1
  obtain ⟨g, cap, rfl⟩ : ∃ g cap, v' = .slice (some ⟨g, 0, none⟩) (bs.length + 1) cap := by
    rcases hown'.2 with ⟨_, h0⟩ | ⟨g, cap, cur, fz, hv, _⟩
    · omega
    · exact ⟨g, cap, hv⟩
  go_wp2
  go_ret
  refine ⟨rfl, ?_, ?_, ?_⟩
  · unfold Bld
    rw [HBS.out]
    exact .inr (Lib.BuilderAtF.put hBb hb2 (bs' := bs ++ [.int .u8 k]) (by simpa using hown') (by decide))
  · exact ((hb1.alloc (by omega) _).grown hgrow (by simp; omega) (fun x hx => (hown.lt x hx).1)).setCell (p := ⟨b, 1, none⟩) hBb _
  · exact ((hk1.alloc _).grown hgrow (Lib.ownsRowF_kind (hown.alloc _))).setCell ⟨b, 1, none⟩ rfl _

set_option maxHeartbeats 2000000 in
theorem writeText (B b : Nat) (l : List UInt8) (s : ByteArray) (w : World) (h : Bld B b l w) (hlen : l.length + s.size ≤ 1000000) (hB : B ≤ w.heap.size) :
    Calls Tryd.prog 19 #[.pointer (some ⟨b, 0, none⟩), .string s] w (Wrote (.tuple #[.int .i64 s.size, .nilIface]) B b (l ++ s.data.toList) w) := by
  obtain ⟨i0, hi, hz0, hz1, hz2⟩ := infoU8
  have HBS := Lib.hid (show Lib.byteCells (l ++ s.data.toList) = Lib.byteCells l ++ Lib.strCells s from Lib.byteCells_append _ _)
  have hbl : (Lib.byteCells l).length + s.size ≤ 1000000 := by rw [Lib.byteCells_length l]; exact hlen
  unfold Bld at h
  generalize Lib.byteCells l = bs at h HBS hbl
  have KC := Lib.hid (check B b bs w h)
  clear h
  go_enter Tryd.func19, Tryd.ntmps19
  go_wp2_with (fail)
  with_reducible refine KC.out.mono ?_
  rintro e w1 ⟨rfl, ⟨hBb, v, hbk, hown, hne⟩, hb1, hk1⟩
  have hlt := lt_of_heap hbk
  have hs1 := hb1.size
  have c0 : w1.cell? ⟨b, 0, none⟩ = some (.pointer (some ⟨b, 0, none⟩)) := by rw [Lib.cell_of_heap hbk]; rfl
  have c1 : w1.cell? ⟨b, 1, none⟩ = some v := by rw [Lib.cell_of_heap hbk]; rfl
  go_wp2_with (at_builtin; refine Lib.wpList_append_own_stringF _ rfl _ _ 40 9 rfl B 5 i0 Tryd.underlying40 Tryd.underlying9 hi hz0 hz1 hz2 _ _ _ rfl hown s rfl ?q3 ?q4 ?q5 ?_)
  case q3 => unfold maxLen; omega
  case q4 => omega
  case q5 => omega
  intro v' w2 hown' hgrow _
  have hb2 : w2.heap[b]? = some (.cells #[.pointer (some ⟨b, 0, none⟩), v] 45 (0, 0)) := by
    rw [hgrow.block b hlt (fun e => hne e.symm)]; exact hbk
  have d1 : w2.cell? ⟨b, 1, none⟩ = some v := by rw [Lib.cell_of_heap hb2]; rfl
  have f1 : w2.frozen? ⟨b, 1, none⟩ = false := Lib.frozen_of_heap hb2 1
  obtain ⟨ao, n', cap, rfl⟩ : ∃ ao n' cap, v' = .slice ao n' cap := by
    rcases hown'.2 with ⟨hv, _⟩ | ⟨g, cap, cur, fz, hv, _⟩
    · exact ⟨_, _, _, hv⟩
    · exact ⟨_, _, _, hv⟩
  go_wp2
  go_ret2
  refine ⟨rfl, ?_, ?_, ?_⟩
  · unfold Bld
    rw [HBS.out]
    exact .inr (Lib.BuilderAtF.put hBb hb2 (bs' := bs ++ Lib.strCells s) (by simpa [Lib.strCells_length] using hown') (by decide))
  · exact (hb1.grown hgrow (by omega) (fun x hx => (hown.lt x hx).1)).setCell (p := ⟨b, 1, none⟩) hBb _
  · exact (hk1.grown hgrow (Lib.ownsRowF_kind hown)).setCell ⟨b, 1, none⟩ rfl _

/-- One write behind the other. -/
theorem Wrote.step {v v' : Value} {B b : Nat} {l l' : List UInt8} {w w1 w2 : World} {e e' : Ending} (h : Wrote v B b l w e w1) (k : Wrote v' B b l' w1 e' w2) : Bld B b l' w2 ∧ Below B w w2 ∧ Lib.OthersKept 5 (some b) w w2 :=
  ⟨k.2.1, h.2.2.1.trans k.2.2.1, h.2.2.2.trans k.2.2.2⟩

set_option maxHeartbeats 1000000 in
theorem putWord (B b : Nat) (l : List UInt8) (s : ByteArray) (w : World) (h : Bld B b l w) (hlen : l.length + s.size + 1 ≤ 1000000) (hB : B ≤ w.heap.size) :
    Calls Tryd.prog 33 #[.pointer (some ⟨b, 0, none⟩), .string s] w (Wrote (.tuple #[]) B b (l ++ 32 :: s.data.toList) w) := by
  have K1 := Lib.hid (writeByte B b l 32 32 rfl w h (by omega) hB)
  have K2 := Lib.hid (fun w1 (h1 : Bld B b (l ++ [32]) w1) (hB1 : B ≤ w1.heap.size) => writeText B b (l ++ [32]) s w1 h1 (by simp; omega) hB1)
  have HE := Lib.hid (show l ++ 32 :: s.data.toList = l ++ [32] ++ s.data.toList by simp)
  clear h
  go_enter Tryd.func33, Tryd.ntmps33
  go_wp2_with (fail)
  with_reducible refine K1.out.mono ?_
  rintro e w1 ⟨rfl, h1, hb1, hk1⟩
  have H1 := Lib.hid hb1
  have HK1 := Lib.hid hk1
  have KK := Lib.hid (K2.out w1 h1 (by have := hb1.size; omega))
  clear h1 hb1 hk1
  go_wp2_with (fail)
  with_reducible refine KK.out.mono ?_
  rintro e w2 ⟨rfl, h2, hb2, hk2⟩
  have H2 := Lib.hid h2
  have HB2 := Lib.hid (H1.out.trans hb2)
  have HK2 := Lib.hid (HK1.out.trans hk2)
  clear h2 hb2 hk2
  go_wp2
  go_end0
  exact ⟨rfl, by rw [HE.out]; exact H2.out, HB2.out, HK2.out⟩
end Go.Proofs.YtbijgmaeechmoaaDoor
namespace Go.Proofs.YtbijgmaeechmoaaDoor
open Go.RowKit Kx
set_option maxRecDepth 100000

def intsV (ns : List Int) : Array Value := (ns.map fun n => Value.int .i64 n).toArray
/-- It is an int of the machine. -/
def Wide (n : Int) : Prop := -9223372036854775808 ≤ n ∧ n ≤ 9223372036854775807
theorem size_text (l : List UInt8) : (⟨l.toArray⟩ : ByteArray).size = l.length := by show l.toArray.size = _; simp
theorem numsW_len : ∀ (ns : List Int), (∀ n ∈ ns, Wide n) → (numsW ns).length ≤ 22 * ns.length
  | [], _ => by simp [numsW]
  | n :: ns, h => by
    have h1 := Lib.itoa_length_le n (h n (by simp)).1 (h n (by simp)).2
    have h2 := numsW_len ns (fun m hm => h m (by simp [hm]))
    simp [numsW]; omega
def NumRel (B b : Nat) (l : List UInt8) (ns : List Int) (w : World) (i : Value) (W : World) : Prop :=
  ∃ k : Nat, k ≤ ns.length ∧ i = .int .i64 (k : Int) ∧ Bld B b (l ++ numsW (ns.take k)) W ∧ Below B w W ∧ Lib.OthersKept 5 (some b) w W
theorem nums_next {ns : List Int} {k : Nat} (h : k < ns.length) : numsW (ns.take (k + 1)) = numsW (ns.take k) ++ 32 :: Lib.itoa ns[k] := by
  rw [List.take_succ_eq_append_getElem h, numsW_append]
  simp [numsW]

set_option maxHeartbeats 2000000 in
theorem putNumbers (B b nb : Nat) (ns : List Int) (l : List UInt8) (w : World) (h : Bld B b l w) (hn : Lies w nb 3 (intsV ns)) (hne : nb ≠ b) (hr : ∀ n ∈ ns, Wide n) (hlen : l.length + 22 * ns.length ≤ 1000000) (hB : B ≤ w.heap.size) (ht : TabB B w) :
    Calls Tryd.prog 20 #[.pointer (some ⟨b, 0, none⟩), .slice (some ⟨nb, 0, none⟩) ns.length ns.length] w (Wrote (.tuple #[]) B b (l ++ numsW ns) w) := by
  have HN := Lib.hid hn
  have HT := Lib.hid ht
  have H0 := Lib.hid h
  clear hn ht h
  go_enter Tryd.func20, Tryd.ntmps20
  go_wp2
  go_loopw [8] (fun i W => NumRel B b l ns w i W) (fun i _ => ns.length - (intOf i).toNat)
  case atStart => exact ⟨0, by omega, rfl, by simpa [numsW] using H0.out, Below.refl _ _, Lib.OthersKept.refl _ _ _⟩
  case round =>
    obtain ⟨k, hk, rfl, hbd, hbl, hok⟩ := hrel
    have HBL := Lib.hid hbl
    have HOK := Lib.hid hok
    have HBD := Lib.hid hbd
    clear hbd hbl hok
    by_cases hlt : k < ns.length
    · have t1 : decide ((k : Int) < (ns.length : Int)) = true := by simp; omega
      have hs := HBL.out.size
      obtain ⟨n, hn⟩ : ∃ n, n = ns[k] := ⟨_, rfl⟩
      have hw : Wide n := by rw [hn]; exact hr _ (List.getElem_mem _)
      have c0 : wr.cell? ⟨nb, k, none⟩ = some (.int .i64 n) := by
        rw [(HN.out.kept HOK.out hne (by decide)).cell k, hn]
        simp [intsV, hlt]
      have hl1 : (numsW (ns.take k)).length ≤ 22 * k := by
        have := numsW_len (ns.take k) (fun m hm => hr m (List.mem_of_mem_take hm))
        rw [List.length_take, Nat.min_eq_left hk] at this; exact this
      have hl2 : (Lib.itoa n).length ≤ 21 := Lib.itoa_length_le n hw.1 hw.2
      have K1 := Lib.hid (itoa_ n hw.1 hw.2 wr (HT.out.on HBL.out).here)
      have K2 := Lib.hid (fun (w1 : World) (hb : Below wr.heap.size wr w1) => putWord B b _ ⟨(Lib.itoa n).toArray⟩ w1 (HBD.out.on hb) (by rw [size_text]; simp; omega) (by have := hb.size; omega))
      have HE := Lib.hid (show l ++ numsW (ns.take k) ++ 32 :: (Lib.itoa n).toArray.toList = l ++ numsW (ns.take (k + 1)) by rw [nums_next hlt, ← hn]; simp)
      clear hn hw hl1 hl2
      go_wp2_with (fail)
      with_reducible refine K1.out.mono ?_
      rintro e w1 ⟨rfl, hb1⟩
      have KK := Lib.hid (K2.out w1 hb1)
      have H1 := Lib.hid hb1
      clear hb1
      go_wp2_with (fail)
      with_reducible refine KK.out.mono ?_
      rintro e w2 ⟨rfl, h2, hb2, hk2⟩
      have H2 := Lib.hid h2
      have HB2 := Lib.hid (HBL.out.trans ((H1.out.mono (Nat.le_trans hB hs)).trans hb2))
      have HK2 := Lib.hid (HOK.out.trans ((kept_of H1.out).trans hk2))
      clear h2 hb2 hk2
      go_wp2
      go_roundw
      case rel => exact ⟨k + 1, by omega, by go_num, by rw [← HE.out]; exact H2.out, HB2.out, HK2.out⟩
      case measure => simp [intOf]; omega
    · have t1 : decide ((k : Int) < (ns.length : Int)) = false := by simp; omega
      have t1' : decide (k < ns.length) = false := by simp; omega
      have HE := Lib.hid (show ns.take k = ns from List.take_of_length_le (by omega))
      go_wp2
      go_end0
      refine ⟨rfl, ?_, HBL.out, HOK.out⟩
      have := HBD.out
      rw [HE.out] at this
      exact this
/-- Numbers that stand in a row of their own. -/
theorem putRow (B b : Nat) (ns : List Int) (l : List UInt8) (w : World) (h : Bld B b l w) (hr : ∀ n ∈ ns, Wide n) (hlen : l.length + 22 * ns.length ≤ 1000000) (hB : B ≤ w.heap.size) (ht : TabB B w) :
    Calls Tryd.prog 20 #[.pointer (some ⟨b, 0, none⟩), .slice (some ⟨w.heap.size, 0, none⟩) ns.length ns.length] (w.alloc (.cells (intsV ns) 3)) (Wrote (.tuple #[]) B b (l ++ numsW ns) w) := by
  have hb : Below w.heap.size w (w.alloc (.cells (intsV ns) 3)) := (Below.refl _ _).alloc (Nat.le_refl _) _
  refine (putNumbers B b w.heap.size ns l _ (h.on hb) (Lies.made _ _ _) (by have := h.lt; omega) hr hlen (by have := hb.size; omega) (ht.on (hb.mono hB))).mono ?_
  rintro e w' ⟨rfl, h1, h2, h3⟩
  exact ⟨rfl, h1, (hb.mono hB).trans h2, (kept_of hb).trans h3⟩

set_option maxHeartbeats 400000 in
/-- The word of a mode. -/
theorem mode_ (m : Int) (w : World) : Calls Tryd.prog 12 #[.int .i64 m] w (Says (.string ⟨(modeW m).toArray⟩) w) := by
  unfold modeW
  by_cases h1 : m = 1
  · subst h1
    go_enter Tryd.func12, Tryd.ntmps12
    go_wp2
    go_ret
    exact ⟨rfl, rfl⟩
  · have e1 : (m == 1) = false := by simpa using h1
    by_cases h2 : m = 2
    · subst h2
      clear h1 e1
      go_enter Tryd.func12, Tryd.ntmps12
      go_wp2
      go_ret
      exact ⟨rfl, rfl⟩
    · have e2 : (m == 2) = false := by simpa using h2
      by_cases h3 : m = 3
      · subst h3
        clear h1 e1 h2 e2
        go_enter Tryd.func12, Tryd.ntmps12
        go_wp2
        go_ret
        exact ⟨rfl, rfl⟩
      · have e3 : (m == 3) = false := by simpa using h3
        rw [if_neg h1, if_neg h2, if_neg h3]
        go_enter Tryd.func12, Tryd.ntmps12
        go_wp2
        go_ret
        exact ⟨rfl, rfl⟩
end Go.Proofs.YtbijgmaeechmoaaDoor
namespace Go.Proofs.YtbijgmaeechmoaaDoor
open Go.RowKit Kx
set_option maxRecDepth 100000

/-- A task whose numbers are ints of the machine, and whose name is short. -/
structure Room (t : Tk) : Prop where
  name : t.name.size ≤ 1000
  T : Wide t.T
  D : Wide t.D
  C : Wide t.C
  A : Wide t.A
  Seg : Wide t.Seg
  Cost : Wide t.Cost
  M : Wide t.M
  K : Wide t.K
  Prio : Wide t.Prio
/-- All numbers of a task are ints of the machine. -/
structure Ints (t : Tk) : Prop where
  T : Wide t.T
  D : Wide t.D
  C : Wide t.C
  A : Wide t.A
  Seg : Wide t.Seg
  Cost : Wide t.Cost
  M : Wide t.M
  K : Wide t.K
  Prio : Wide t.Prio
theorem modeW_len (m : Int) : (modeW m).length ≤ 6 := by
  unfold modeW
  repeat' split
  all_goals decide
theorem three_wide {a b c : Int} (h1 : Wide a) (h2 : Wide b) (h3 : Wide c) : ∀ n ∈ [a, b, c], Wide n := fun n hn => by
  simp only [List.mem_cons, List.not_mem_nil, or_false] at hn
  rcases hn with rfl | rfl | rfl <;> assumption
theorem six_wide {a b c d e f : Int} (h1 : Wide a) (h2 : Wide b) (h3 : Wide c) (h4 : Wide d) (h5 : Wide e) (h6 : Wide f) : ∀ n ∈ [a, b, c, d, e, f], Wide n := fun n hn => by
  simp only [List.mem_cons, List.not_mem_nil, or_false] at hn
  rcases hn with rfl | rfl | rfl | rfl | rfl | rfl <;> assumption
theorem name_len (s : ByteArray) : s.data.toList.length = s.size := by rw [Array.length_toList]; rfl
theorem lineW_len {t : Tk} (h : Room t) : (lineW t).length ≤ 1400 := by
  have h1 := numsW_len _ (three_wide h.T h.D h.C)
  have h2 := numsW_len _ (six_wide h.A h.Seg h.Cost h.M h.K h.Prio)
  have h3 := modeW_len t.Mode
  have h4 := name_len t.name
  have h5 := h.name
  have h6 : sTask.length = 4 := rfl
  simp only [List.length_cons, List.length_nil] at h1 h2
  simp only [lineW, List.length_append, List.length_cons]
  omega
/-- What was written so far. -/
structure Now (B b : Nat) (l : List UInt8) (w W : World) : Prop where
  bld : Bld B b l W
  bel : Below B w W
  kept : Lib.OthersKept 5 (some b) w W
theorem Now.then {B b : Nat} {l l' : List UInt8} {v : Value} {w W W' : World} {e : Ending} (h : Now B b l w W) (k : Wrote v B b l' W e W') : Now B b l' w W' := ⟨k.2.1, h.bel.trans k.2.2.1, h.kept.trans k.2.2.2⟩
theorem Now.ge {B b : Nat} {l : List UInt8} {w W : World} (h : Now B b l w W) (hB : B ≤ w.heap.size) : B ≤ W.heap.size := Nat.le_trans hB h.bel.size

set_option maxHeartbeats 4000000 in
theorem putTask (B b : Nat) (l : List UInt8) (t : Tk) (w : World) (h : Bld B b l w) (hr : Room t) (hlen : l.length ≤ 500000) (hB : B ≤ w.heap.size) (ht : TabB B w) :
    Calls Tryd.prog 22 #[.pointer (some ⟨b, 0, none⟩), aggK t] w (Wrote (.tuple #[]) B b (l ++ lineW t) w) := by
  have HLEN := Lib.hid hlen
  have HR := Lib.hid hr
  obtain ⟨n, tT, tD, tC, tA, tS, tc, tM, tK, tO, tP⟩ := t
  have hW3 := Lib.hid (three_wide hr.T hr.D hr.C)
  have hW6 := Lib.hid (six_wide hr.A hr.Seg hr.Cost hr.M hr.K hr.Prio)
  have HN3 := Lib.hid (numsW_len _ hW3.out)
  have hnm : n.size ≤ 1000 := hr.name
  have hmo := Lib.hid (modeW_len tO)
  have HE := Lib.hid (show l ++ lineW ⟨n, tT, tD, tC, tA, tS, tc, tM, tK, tO, tP⟩ = l ++ [116, 97, 115, 107] ++ 32 :: n.data.toList ++ numsW [tT, tD, tC] ++ 32 :: modeW tO ++ numsW [tA, tS, tc, tM, tK, tP] by simp [lineW, sTask])
  simp only [aggK] at hW3 hW6 HN3 ⊢
  have hnl := Lib.hid (name_len n)
  obtain ⟨p, hp⟩ : ∃ p, p = w.heap.size := ⟨_, rfl⟩
  have HP := Lib.hid hp
  have hpb : p ≠ b := by have := h.lt; omega
  obtain ⟨V, hV⟩ : ∃ V, V = w.alloc (.cells #[.string n, .int .i64 tT, .int .i64 tD, .int .i64 tC, .int .i64 tA, .int .i64 tS, .int .i64 tc, .int .i64 tM, .int .i64 tK, .int .i64 tO, .int .i64 tP] 26) := ⟨_, rfl⟩
  have hbV : Below w.heap.size w V := by rw [hV]; exact (Below.refl _ _).alloc (Nat.le_refl _) _
  have HL := Lib.hid (show Lies V p 26 #[.string n, .int .i64 tT, .int .i64 tD, .int .i64 tC, .int .i64 tA, .int .i64 tS, .int .i64 tc, .int .i64 tM, .int .i64 tK, .int .i64 tO, .int .i64 tP] by rw [hV, hp]; exact Lies.made _ _ _)
  have HNow := Lib.hid (Now.mk (h.on hbV) (hbV.mono hB) (kept_of hbV) : Now B b l w V)
  have HT := Lib.hid ht
  have HV := Lib.hid hV
  have K1 := Lib.hid (writeText B b l ⟨#[116, 97, 115, 107]⟩ V HNow.out.bld (by show l.length + 4 ≤ 1000000; omega) (HNow.out.ge hB))
  clear h hr hlen ht hp hV hbV
  go_enter Tryd.func22, Tryd.ntmps22
  go_upto_region 1 with fail
  rw [← HV.out]
  rw [← HP.out]
  go_wp2_with (fail)
  with_reducible refine K1.out.mono ?_
  intro e w1 hw1
  obtain ⟨he, hw1'⟩ := hw1
  subst he
  have N1 := Lib.hid (HNow.out.then (e := .returned (.tuple #[])) (v := .tuple #[]) ⟨rfl, hw1'⟩)
  have L1 := Lib.hid (HL.out.kept hw1'.2.2 hpb (by decide))
  clear hw1'
  have K2 := Lib.hid (putWord B b _ n w1 N1.out.bld (by have := HLEN.out; simp; omega) (N1.out.ge hB))
  have x0 : w1.cell? ⟨p, 0, none⟩ = some (.string n) := L1.out.cell 0
  go_wp2_with (fail)
  with_reducible refine K2.out.mono ?_
  intro e w2 hw2
  obtain ⟨he, hw2'⟩ := hw2
  subst he
  have N2 := Lib.hid (N1.out.then (e := .returned (.tuple #[])) (v := .tuple #[]) ⟨rfl, hw2'⟩)
  have L2 := Lib.hid (L1.out.kept hw2'.2.2 hpb (by decide))
  clear hw2' x0
  have K3 := Lib.hid (putRow B b [tT, tD, tC] _ w2 N2.out.bld hW3.out (by have := HLEN.out; have := hnl.out; simp; omega) (N2.out.ge hB) (HT.out.on N2.out.bel))
  have y1 : w2.cell? ⟨p, 1, none⟩ = some (.int .i64 tT) := L2.out.cell 1
  have y2 : w2.cell? ⟨p, 2, none⟩ = some (.int .i64 tD) := L2.out.cell 2
  have y3 : w2.cell? ⟨p, 3, none⟩ = some (.int .i64 tC) := L2.out.cell 3
  simp only [intsV, List.map_cons, List.map_nil, List.length_cons, List.length_nil] at K3
  go_wp2_with (fail)
  with_reducible refine K3.out.mono ?_
  intro e w3 hw3
  obtain ⟨he, hw3'⟩ := hw3
  subst he
  have N3 := Lib.hid (N2.out.then (e := .returned (.tuple #[])) (v := .tuple #[]) ⟨rfl, hw3'⟩)
  have L3 := Lib.hid (L2.out.kept hw3'.2.2 hpb (by decide))
  clear hw3' y1 y2 y3 K1 K2 K3 L1 L2 N1 N2
  have y9 : w3.cell? ⟨p, 9, none⟩ = some (.int .i64 tO) := L3.out.cell 9
  have K4 := Lib.hid (mode_ tO w3)
  have K5 := Lib.hid (putWord B b _ ⟨(modeW tO).toArray⟩ w3 N3.out.bld (by
    have := HLEN.out; have := hnl.out; have := HN3.out; have := hmo.out
    rw [size_text]
    simp only [List.length_append, List.length_cons, List.length_nil] at *
    omega) (N3.out.ge hB))
  go_wp2_with (fail)
  with_reducible refine K4.out.mono ?_
  rintro e w3' ⟨rfl, rfl⟩
  go_wp2_with (fail)
  with_reducible refine K5.out.mono ?_
  intro e w4 hw4
  obtain ⟨he, hw4'⟩ := hw4
  subst he
  have N4 := Lib.hid (N3.out.then (e := .returned (.tuple #[])) (v := .tuple #[]) ⟨rfl, hw4'⟩)
  have L4 := Lib.hid (L3.out.kept hw4'.2.2 hpb (by decide))
  clear hw4' y9 K4 K5 L3 N3
  have z4 : w4.cell? ⟨p, 4, none⟩ = some (.int .i64 tA) := L4.out.cell 4
  have z5 : w4.cell? ⟨p, 5, none⟩ = some (.int .i64 tS) := L4.out.cell 5
  have z6 : w4.cell? ⟨p, 6, none⟩ = some (.int .i64 tc) := L4.out.cell 6
  have z7 : w4.cell? ⟨p, 7, none⟩ = some (.int .i64 tM) := L4.out.cell 7
  have z8 : w4.cell? ⟨p, 8, none⟩ = some (.int .i64 tK) := L4.out.cell 8
  have z10 : w4.cell? ⟨p, 10, none⟩ = some (.int .i64 tP) := L4.out.cell 10
  have K6 := Lib.hid (putRow B b [tA, tS, tc, tM, tK, tP] _ w4 N4.out.bld hW6.out (by
    have := HLEN.out; have := hnl.out; have := HN3.out; have := hmo.out
    simp only [List.length_append, List.length_cons, List.length_nil] at *
    omega) (N4.out.ge hB) (HT.out.on N4.out.bel))
  simp only [intsV, List.map_cons, List.map_nil, List.length_cons, List.length_nil] at K6
  go_wp2_with (fail)
  with_reducible refine K6.out.mono ?_
  intro e w5 hw5
  obtain ⟨he, hw5'⟩ := hw5
  subst he
  have N5 := Lib.hid (N4.out.then (e := .returned (.tuple #[])) (v := .tuple #[]) ⟨rfl, hw5'⟩)
  clear hw5' K6 z4 z5 z6 z7 z8 z10
  go_wp2
  go_end0
  refine ⟨rfl, ?_, N5.out.bel, N5.out.kept⟩
  rw [HE.out]
  exact N5.out.bld
end Go.Proofs.YtbijgmaeechmoaaDoor
