/- The program is awake: two answers that the document fixes. -/
import Derived.Test.YtdjpijmihlpbjaaSm
namespace Go.Proofs.Ytdjpijmihlpbjaa
open Go.RowKit

/-- It says yes, and what was there is as it was. -/
def Woke (w : World) (e : Ending) (w' : World) : Prop := e = .returned (.bool true) ∧ Below w.heap.size w w'
/-- Bytes as cells. -/
def bytesV (l : List UInt8) : List Value := l.map fun c => .int .u8 (c.toNat : Int)
theorem bytes_row {w : World} {b cap : Nat} {cs : Array Value} {fr : Nat × Nat} {l : List UInt8} (h : w.heap[b]? = some (.cells cs 5 fr)) (hl : l.length ≤ cap) (hc : ∀ (i : Nat) (c : UInt8), l[i]? = some c → cs[i]? = some (Value.int .u8 (c.toNat : Int))) : Bytes w (some ⟨b, 0, none⟩) cap l :=
  ⟨hl, .inr ⟨b, 0, rfl, lt_of_block h, fun i c hi => by rw [Nat.zero_add, cell_of_row w b i cs 5 fr h]; exact hc i c hi⟩⟩
/-- A literal's row behind its conversion. -/
def litO (l : List UInt8) : Obj := .cells (bytesV l).toArray 5 ((bytesV l).toArray.size, (bytesV l).toArray.size + 1)
theorem bytes_lit (w : World) (l : List UInt8) : Bytes (w.alloc (litO l)) (some ⟨w.heap.size, 0, none⟩) l.length l :=
  bytes_row (heap_alloc_new w _) (Nat.le_refl _) (fun i c hi => by simp [bytesV, hi])
theorem conv_lit (w : World) (cs : Array Value) (n c : Nat) : (convert 22 22 (.slice (some ⟨w.heap.size, 0, none⟩) n c)).run Try.prog (w.alloc (.cells cs 5)) = .ok (.slice (some ⟨w.heap.size, 0, none⟩) n c) (w.alloc (.cells cs 5 (cs.size, cs.size + 1))) := by
  have hsh : (w.alloc (.cells cs 5)).shape? w.heap.size = some (5, cs.size) := by
    simp [World.shape?, World.alloc, -World.alloc_eq]
  have hfr : (w.alloc (.cells cs 5)).freeze ⟨w.heap.size, cs.size, none⟩ 1 = w.alloc (.cells cs 5 (cs.size, cs.size + 1)) := by
    have hm : ∀ F : Obj → Obj, (w.heap.push (.cells cs 5)).modify w.heap.size F = w.heap.push (F (.cells cs 5)) := fun F => by
      apply Array.ext_getElem?
      intro i
      rw [Array.getElem?_modify, Array.getElem?_push, Array.getElem?_push]
      by_cases h : w.heap.size = i
      · simp [h]
      · rw [if_neg h, if_neg (Ne.symm h), if_neg (Ne.symm h)]
    unfold World.freeze
    rw [if_neg (by decide)]
    show ({ w.alloc (.cells cs 5) with heap := (w.heap.push (.cells cs 5)).modify w.heap.size _ } : World) = _
    rw [hm]
    rfl
  simp [convert, run_underlying Try.underlying22, run_underlying Try.underlying5, markStringish, hsh]
  exact hfr
theorem lex1 : lex [97, 98, 32, 49, 50] = ([⟨1, [97, 98], 0, 1, 1⟩, ⟨2, [49, 50], 12, 1, 4⟩, ⟨4, [], 0, 1, 6⟩], 0, 0, 0) := rfl
theorem lex2 : lex [97, 10, 32, 66] = ([⟨1, [97], 0, 1, 1⟩, ⟨3, [], 0, 1, 2⟩], 5, 2, 2) := rfl
theorem ans1 : ans [97, 98, 32, 49, 50] = [⟨1, [97, 98], 0, 1, 1⟩, ⟨2, [49, 50], 12, 1, 4⟩, ⟨4, [], 0, 1, 6⟩] := by unfold ans; rw [lex1]; rfl
theorem ans2 : ans [97, 10, 32, 66] = [] := by unfold ans; rw [lex2]; rfl

/-- A literal, converted and read. -/
theorem lit_tokens (l : List UInt8) (w : World) (hl : l.length ≤ 1000000) : Calls Try.prog 10 #[.slice (some ⟨w.heap.size, 0, none⟩) l.length l.length] (w.alloc (litO l)) (Lexed l (w.alloc (litO l))) :=
  tokens l _ _ hl (bytes_lit w l)

set_option maxRecDepth 100000 in
set_option maxHeartbeats 4000000 in
theorem awake (w : World) : Calls Try.prog 9 #[] w (Woke w) := by
  have K1 : Hid (Calls Try.prog 10 #[.slice (some ⟨w.heap.size, 0, none⟩) 5 5] (w.alloc (litO [97, 98, 32, 49, 50])) (Lexed [97, 98, 32, 49, 50] (w.alloc (litO [97, 98, 32, 49, 50])))) := lit_tokens _ w (by simp)
  have hc1 : (convert 22 22 (.slice (some ⟨w.heap.size, 0, none⟩) 5 5)).run Try.prog (w.alloc (.cells #[.int .u8 97, .int .u8 98, .int .u8 32, .int .u8 49, .int .u8 50] 5)) = .ok (.slice (some ⟨w.heap.size, 0, none⟩) 5 5) (w.alloc (litO [97, 98, 32, 49, 50])) := conv_lit w _ 5 5
  have HB0 := Lib.hid ((Below.refl w.heap.size w).alloc (Nat.le_refl _) (litO [97, 98, 32, 49, 50]))
  go_enter Try.func9, Try.ntmps9
  go_wp2_with (fail)
  refine K1.out.mono ?_
  rintro e w1 ⟨A, c, rfl, hnc, htk, _, hbel⟩
  rw [ans1] at htk hnc
  rw [ans1, lex1]
  have HB1 := Lib.hid (HB0.out.trans (hbel.mono HB0.out.size))
  simp only [spotV, List.length_cons, List.length_nil, Nat.reduceAdd]
  have HT1 := Lib.hid htk
  clear htk hbel hc1
  obtain ⟨V, hV⟩ : ∃ V, V = w1.alloc (.cells #[.int .i64 0, .int .i64 0, .int .i64 0] 27) := ⟨_, rfl⟩
  have hVs : V.heap.size = w1.heap.size + 1 := by rw [hV]; simp
  have K2 : Hid (Calls Try.prog 10 #[.slice (some ⟨w1.heap.size + 1, 0, none⟩) 4 4] (V.alloc (litO [97, 10, 32, 66])) (Lexed [97, 10, 32, 66] (V.alloc (litO [97, 10, 32, 66])))) := by have := lit_tokens [97, 10, 32, 66] V (by simp); rw [hVs] at this; exact this
  have hc2 : (convert 22 22 (.slice (some ⟨w1.heap.size + 1, 0, none⟩) 4 4)).run Try.prog ((w1.alloc (.cells #[.int .i64 0, .int .i64 0, .int .i64 0] 27)).alloc (.cells #[.int .u8 97, .int .u8 10, .int .u8 32, .int .u8 66] 5)) = .ok (.slice (some ⟨w1.heap.size + 1, 0, none⟩) 4 4) (V.alloc (litO [97, 10, 32, 66])) := by have := conv_lit V #[.int .u8 97, .int .u8 10, .int .u8 32, .int .u8 66] 4 4; rw [hVs] at this; rw [← hV]; exact this
  have HV : Hid (Below w1.heap.size w1 (V.alloc (litO [97, 10, 32, 66]))) := by rw [hV]; exact ((Below.refl _ _).alloc (Nat.le_refl _) _).alloc (by simp) _
  have HS : Hid (Lies (V.alloc (litO [97, 10, 32, 66])) w1.heap.size 27 #[.int .i64 0, .int .i64 0, .int .i64 0]) := by rw [hV]; exact (Lies.made _ _ _).alloc _
  clear hV hVs
  go_wp2_with (fail)
  refine K2.out.mono ?_
  rintro e w2 ⟨A2, c2, rfl, _, _, _, hbel2⟩
  rw [ans2, lex2]
  simp only [spotV, List.length_nil]
  have HB12 := Lib.hid ((HV.out.trans (hbel2.mono HV.out.size)).alloc (B := w1.heap.size) (Nat.le_trans HV.out.size hbel2.size) (.cells #[.int .i64 5, .int .i64 2, .int .i64 2] 27))
  have HS2 := Lib.hid ((HS.out.below hbel2 HS.out.lt).alloc (.cells #[.int .i64 5, .int .i64 2, .int .i64 2] 27))
  obtain ⟨b, off, rfl, _, hcs⟩ := HT1.out.below (Nat.le_refl _) HB12.out (by simp)
  have x1 := (Toks.cells hcs (i := 0) (t := ⟨1, [97, 98], 0, 1, 1⟩) rfl).2.1
  have x2 := (Toks.cells hcs (i := 1) (t := ⟨2, [49, 50], 12, 1, 4⟩) rfl).2.2.1
  have x3 := (Toks.cells hcs (i := 1) (t := ⟨2, [49, 50], 12, 1, 4⟩) rfl).2.2.2.2
  have x4 := (Toks.cells hcs (i := 2) (t := ⟨4, [], 0, 1, 6⟩) rfl).1
  have x5 := (Toks.cells hcs (i := 2) (t := ⟨4, [], 0, 1, 6⟩) rfl).2.2.2.2
  simp only [Nat.zero_mul, Nat.add_zero, Nat.one_mul, Nat.reduceMul] at x1 x2 x3 x4 x5
  have y0 := (HS2.out.cell 0).trans rfl
  have y1 := (HS2.out.cell 1).trans rfl
  have y2 := (HS2.out.cell 2).trans rfl
  clear hbel2 hc2 hcs
  go_wp2
  go_ret
  exact ⟨rfl, HB1.out.trans (HB12.out.mono HB1.out.size)⟩
end Go.Proofs.Ytdjpijmihlpbjaa
