/- A spot of a token; the token that is blamed. -/
import Derived.Test.YtbijgmaeechmoaaDoorRm
import Derived.Test.YtbijgmaeechmoaaDoorLTk
namespace Go.Proofs.YtbijgmaeechmoaaDoor
open Go.RowKit Lx Kx
set_option maxRecDepth 100000

/-- It answers a spot. -/
def Spots (s : Nat × Nat × Nat) (w : World) (e : Ending) (w' : World) : Prop := e = .returned (spotV s) ∧ Below w.heap.size w w'
theorem results_spot1 {fn : Func} {s : Nat} (h : fn.results = #[.cell s 37]) (tmps : Array Value) (w : World) (g : Nat) (cs : Array Value) (hp : tmps.getD s undef = .pointer (some ⟨g, 0, none⟩)) (hL : Lies w g 37 cs) (hs : cs.size = 3) :
    (results fn tmps).run Tryd.prog w = .ok (.agg cs) w := by
  have hp' : tmps[s]?.getD undef = .pointer (some ⟨g, 0, none⟩) := by simpa using hp
  simp [results, h, hp', asAddr, run_loadVar_row (P := Tryd.prog) w g 37 37 cs (0, 0) _ hL Tryd.underlying37 rfl (by rw [hs]; rfl)]

set_option maxRecDepth 100000 in
set_option maxHeartbeats 1000000 in
theorem spotAt (t : Tok) (n : Nat) (z : Int) (hz : z = (n : Int)) (w : World) : Calls Tryd.prog 28 #[.agg (cellsT t).toArray, .int .i64 z] w (Spots (n, t.line, t.col) w) := by
  subst hz
  obtain ⟨V, hV⟩ : ∃ V, V = (w.alloc (.cells #[.int .i64 (t.kind : Nat), .string ⟨t.text.toArray⟩, .int .i64 (t.value : Nat), .int .i64 (t.line : Nat), .int .i64 (t.col : Nat)] 61)).alloc (.cells #[.int .i64 0, .int .i64 0, .int .i64 0] 37) := ⟨_, rfl⟩
  have HV := Lib.hid hV
  have HB : Hid (Below w.heap.size w V) := by rw [hV]; exact (below_new _ _).alloc (by simp) _
  have HL := Lib.hid (show Lies V (w.heap.size + 1) 37 #[.int .i64 0, .int .i64 0, .int .i64 0] by
    rw [hV]
    have := Lies.made (w.alloc (.cells #[.int .i64 (t.kind : Nat), .string ⟨t.text.toArray⟩, .int .i64 (t.value : Nat), .int .i64 (t.line : Nat), .int .i64 (t.col : Nat)] 61)) 37 #[.int .i64 0, .int .i64 0, .int .i64 0]
    simpa using this)
  have HX : Hid (Lies V w.heap.size 61 #[.int .i64 (t.kind : Nat), .string ⟨t.text.toArray⟩, .int .i64 (t.value : Nat), .int .i64 (t.line : Nat), .int .i64 (t.col : Nat)]) := by rw [hV]; exact (Lies.made _ _ _).alloc _
  have x3 : V.cell? ⟨w.heap.size, 3, none⟩ = some (.int .i64 (t.line : Nat)) := (HX.out.cell 3).trans rfl
  have x4 : V.cell? ⟨w.heap.size, 4, none⟩ = some (.int .i64 (t.col : Nat)) := (HX.out.cell 4).trans rfl
  have s0 : V.cell? ⟨w.heap.size + 1, 0, none⟩ = some (.int .i64 0) := (HL.out.cell 0).trans rfl
  have s1 : V.cell? ⟨w.heap.size + 1, 1, none⟩ = some (.int .i64 0) := (HL.out.cell 1).trans rfl
  have s2 : V.cell? ⟨w.heap.size + 1, 2, none⟩ = some (.int .i64 0) := (HL.out.cell 2).trans rfl
  have r0 := HL.out.thawed 0
  have r1 := HL.out.thawed 1
  have r2 := HL.out.thawed 2
  have HLS := Lib.hid (lies_spot HL.out (.int .i64 (n : Int)) (.int .i64 (t.line : Nat)) (.int .i64 (t.col : Nat)))
  have HBS := Lib.hid (below_spot HB.out (show w.heap.size ≤ w.heap.size + 1 by omega) (.int .i64 (n : Int)) (.int .i64 (t.line : Nat)) (.int .i64 (t.col : Nat)))
  clear hV
  unfold cellsT
  go_enter Tryd.func28, Tryd.ntmps28
  go_upto_region 1 with fail
  rw [← HV.out]
  go_wp2
  (try simp only [Exit.inBlock, Exit.then])
  refine bodyPost_ret (results_spot1 rfl _ _ (w.heap.size + 1) _ rfl HLS.out rfl) rfl ?_
  exact ⟨rfl, HBS.out⟩

section
variable {w0 w : World} {g : Nat} {A : Option Addr} {c : Nat} {ts : List Tok} {k : Nat} {B : Int} {n : Tok} {hs : List Tok} {l : List Tk} {t : Tok}
/-- A token's cells, read from a row into the answer. -/
theorem row_cells {W : World} {AF : Option Addr} {i : Nat} {t : Tok} (h : Toks W AF hs) (hi : hs[i]? = some t) : ∃ b off, AF = some ⟨b, off, none⟩ ∧ b < W.heap.size ∧ ∀ j v, (cellsT t)[j]? = some v → W.cell? ⟨b, off + i * 5 + j, none⟩ = some v := by
  have hl := (List.getElem?_eq_some_iff.1 hi).1
  obtain ⟨b, off, ha, hlt, hc⟩ := h (by omega)
  exact ⟨b, off, ha, hlt, fun j v hj => hc i t hi j v hj⟩
set_option maxRecDepth 100000 in
set_option maxHeartbeats 2000000 in
theorem blamed1 (at_ : Int) (h : Rd w0 g A c ts k B n hs l w) : Calls Tryd.prog 31 #[.pointer (some ⟨g, 0, none⟩), .int .i64 1, .int .i64 at_] w (Gives n w) := by
  obtain ⟨T, F, hr, _⟩ := h
  obtain ⟨V, hV⟩ : ∃ V, V = w.alloc (.cells #[.int .i64 0, .string ⟨#[]⟩, .int .i64 0, .int .i64 0, .int .i64 0] 61) := ⟨_, rfl⟩
  have HV := Lib.hid hV
  have HB : Hid (Below w.heap.size w V) := by rw [hV]; exact below_new _ _
  have HL : Hid (Lies V w.heap.size 61 #[.int .i64 0, .string ⟨#[]⟩, .int .i64 0, .int .i64 0, .int .i64 0]) := by rw [hV]; exact Lies.made _ _ _
  have s0 : V.cell? ⟨w.heap.size, 0, none⟩ = some (.int .i64 0) := (HL.out.cell 0).trans rfl
  have s1 : V.cell? ⟨w.heap.size, 1, none⟩ = some (.string ⟨#[]⟩) := (HL.out.cell 1).trans rfl
  have s2 : V.cell? ⟨w.heap.size, 2, none⟩ = some (.int .i64 0) := (HL.out.cell 2).trans rfl
  have s3 : V.cell? ⟨w.heap.size, 3, none⟩ = some (.int .i64 0) := (HL.out.cell 3).trans rfl
  have s4 : V.cell? ⟨w.heap.size, 4, none⟩ = some (.int .i64 0) := (HL.out.cell 4).trans rfl
  have r0 := HL.out.thawed 0
  have r1 := HL.out.thawed 1
  have r2 := HL.out.thawed 2
  have r3 := HL.out.thawed 3
  have r4 := HL.out.thawed 4
  clear hV
  have HX := Lib.hid (hr.alloc (.cells #[.int .i64 0, .string ⟨#[]⟩, .int .i64 0, .int .i64 0, .int .i64 0] 61)).lies
  rw [← HV.out] at HX
  have x0 : V.cell? ⟨g, 4, none⟩ = some (.int .i64 (n.kind : Nat)) := (HX.out.cell 4).trans rfl
  have x1 : V.cell? ⟨g, 5, none⟩ = some (.string ⟨n.text.toArray⟩) := (HX.out.cell 5).trans rfl
  have x2 : V.cell? ⟨g, 6, none⟩ = some (.int .i64 (n.value : Nat)) := (HX.out.cell 6).trans rfl
  have x3 : V.cell? ⟨g, 7, none⟩ = some (.int .i64 (n.line : Nat)) := (HX.out.cell 7).trans rfl
  have x4 : V.cell? ⟨g, 8, none⟩ = some (.int .i64 (n.col : Nat)) := (HX.out.cell 8).trans rfl
  have H5 := Lib.hid (lies_five HL.out (.int .i64 (n.kind : Nat)) (.string ⟨n.text.toArray⟩) (.int .i64 (n.value : Nat)) (.int .i64 (n.line : Nat)) (.int .i64 (n.col : Nat)))
  have HB5 := Lib.hid (below_five HB.out (Nat.le_refl _) (.int .i64 (n.kind : Nat)) (.string ⟨n.text.toArray⟩) (.int .i64 (n.value : Nat)) (.int .i64 (n.line : Nat)) (.int .i64 (n.col : Nat)))
  clear hr
  go_enter Tryd.func31, Tryd.ntmps31
  go_upto_region 1 with fail
  rw [← HV.out]
  go_wp2
  (try simp only [Exit.inBlock, Exit.then])
  refine bodyPost_ret (results_tok rfl _ _ w.heap.size _ rfl H5.out rfl) rfl ?_
  exact ⟨rfl, HB5.out⟩
set_option maxRecDepth 100000 in
set_option maxHeartbeats 2000000 in
theorem blamedAt (why : Int) (i : Nat) (at_ : Int) (hat : at_ = (i : Int)) (h : Rd w0 g A c ts k B n hs l w) (h1 : why ≠ 1) (h2 : why ≠ 2) (_ : hs.length ≤ 1000000) (hi : hs[i]? = some t) :
    Calls Tryd.prog 31 #[.pointer (some ⟨g, 0, none⟩), .int .i64 why, .int .i64 at_] w (Gives t w) := by
  subst hat
  obtain ⟨T, F, hr, hrows⟩ := h
  obtain ⟨AF, cF, rfl, _, hcF, htk, _⟩ := Toks.own hrows.firsts
  have hil := (List.getElem?_eq_some_iff.1 hi).1
  obtain ⟨V, hV⟩ : ∃ V, V = w.alloc (.cells #[.int .i64 0, .string ⟨#[]⟩, .int .i64 0, .int .i64 0, .int .i64 0] 61) := ⟨_, rfl⟩
  have HV := Lib.hid hV
  have HB : Hid (Below w.heap.size w V) := by rw [hV]; exact below_new _ _
  have HL : Hid (Lies V w.heap.size 61 #[.int .i64 0, .string ⟨#[]⟩, .int .i64 0, .int .i64 0, .int .i64 0]) := by rw [hV]; exact Lies.made _ _ _
  have s0 : V.cell? ⟨w.heap.size, 0, none⟩ = some (.int .i64 0) := (HL.out.cell 0).trans rfl
  have s1 : V.cell? ⟨w.heap.size, 1, none⟩ = some (.string ⟨#[]⟩) := (HL.out.cell 1).trans rfl
  have s2 : V.cell? ⟨w.heap.size, 2, none⟩ = some (.int .i64 0) := (HL.out.cell 2).trans rfl
  have s3 : V.cell? ⟨w.heap.size, 3, none⟩ = some (.int .i64 0) := (HL.out.cell 3).trans rfl
  have s4 : V.cell? ⟨w.heap.size, 4, none⟩ = some (.int .i64 0) := (HL.out.cell 4).trans rfl
  have r0 := HL.out.thawed 0
  have r1 := HL.out.thawed 1
  have r2 := HL.out.thawed 2
  have r3 := HL.out.thawed 3
  have r4 := HL.out.thawed 4
  clear hV
  have HX := Lib.hid (hr.alloc (.cells #[.int .i64 0, .string ⟨#[]⟩, .int .i64 0, .int .i64 0, .int .i64 0] 61)).lies
  rw [← HV.out] at HX
  obtain ⟨b, off, rfl, _, hc⟩ := row_cells (htk.below (Nat.le_refl _) HB.out) hi
  have y9 : V.cell? ⟨g, 9, none⟩ = some (.slice (some ⟨b, off, none⟩) hs.length cF) := (HX.out.cell 9).trans rfl
  have x0 : V.cell? ⟨b, off + i * 5, none⟩ = some (.int .i64 (t.kind : Nat)) := hc 0 _ rfl
  have x1 : V.cell? ⟨b, off + i * 5 + 1, none⟩ = some (.string ⟨t.text.toArray⟩) := hc 1 _ rfl
  have x2 : V.cell? ⟨b, off + i * 5 + 2, none⟩ = some (.int .i64 (t.value : Nat)) := hc 2 _ rfl
  have x3 : V.cell? ⟨b, off + i * 5 + 3, none⟩ = some (.int .i64 (t.line : Nat)) := hc 3 _ rfl
  have x4 : V.cell? ⟨b, off + i * 5 + 4, none⟩ = some (.int .i64 (t.col : Nat)) := hc 4 _ rfl
  have H5 := Lib.hid (lies_five HL.out (.int .i64 (t.kind : Nat)) (.string ⟨t.text.toArray⟩) (.int .i64 (t.value : Nat)) (.int .i64 (t.line : Nat)) (.int .i64 (t.col : Nat)))
  have HB5 := Lib.hid (below_five HB.out (Nat.le_refl _) (.int .i64 (t.kind : Nat)) (.string ⟨t.text.toArray⟩) (.int .i64 (t.value : Nat)) (.int .i64 (t.line : Nat)) (.int .i64 (t.col : Nat)))
  have q1 : (why == 1) = false := by simp [h1]
  have q2 : (why != 2) = true := by simp [h2]
  clear hr hrows htk hc h1 h2 hi
  go_enter Tryd.func31, Tryd.ntmps31
  go_upto_region 1 with fail
  rw [← HV.out]
  go_wp2
  (try simp only [Exit.inBlock, Exit.then])
  refine bodyPost_ret (results_tok rfl _ _ w.heap.size _ rfl H5.out rfl) rfl ?_
  exact ⟨rfl, HB5.out⟩
set_option maxRecDepth 100000 in
set_option maxHeartbeats 2000000 in
theorem blamed16 (at_ : Int) (h : Rd w0 g A c ts k B n hs l w) (hh : hs.length ≤ 1000000) (hi : hs[16]? = some t) :
    Calls Tryd.prog 31 #[.pointer (some ⟨g, 0, none⟩), .int .i64 2, .int .i64 at_] w (Gives t w) := by
  obtain ⟨T, F, hr, hrows⟩ := h
  obtain ⟨AF, cF, rfl, _, hcF, htk, _⟩ := Toks.own hrows.firsts
  have hil := (List.getElem?_eq_some_iff.1 hi).1
  have q3 : decide ((16 : Int) < (hs.length : Int)) = true := by simp; omega
  obtain ⟨V, hV⟩ : ∃ V, V = w.alloc (.cells #[.int .i64 0, .string ⟨#[]⟩, .int .i64 0, .int .i64 0, .int .i64 0] 61) := ⟨_, rfl⟩
  have HV := Lib.hid hV
  have HB : Hid (Below w.heap.size w V) := by rw [hV]; exact below_new _ _
  have HL : Hid (Lies V w.heap.size 61 #[.int .i64 0, .string ⟨#[]⟩, .int .i64 0, .int .i64 0, .int .i64 0]) := by rw [hV]; exact Lies.made _ _ _
  have s0 : V.cell? ⟨w.heap.size, 0, none⟩ = some (.int .i64 0) := (HL.out.cell 0).trans rfl
  have s1 : V.cell? ⟨w.heap.size, 1, none⟩ = some (.string ⟨#[]⟩) := (HL.out.cell 1).trans rfl
  have s2 : V.cell? ⟨w.heap.size, 2, none⟩ = some (.int .i64 0) := (HL.out.cell 2).trans rfl
  have s3 : V.cell? ⟨w.heap.size, 3, none⟩ = some (.int .i64 0) := (HL.out.cell 3).trans rfl
  have s4 : V.cell? ⟨w.heap.size, 4, none⟩ = some (.int .i64 0) := (HL.out.cell 4).trans rfl
  have r0 := HL.out.thawed 0
  have r1 := HL.out.thawed 1
  have r2 := HL.out.thawed 2
  have r3 := HL.out.thawed 3
  have r4 := HL.out.thawed 4
  clear hV
  have HX := Lib.hid (hr.alloc (.cells #[.int .i64 0, .string ⟨#[]⟩, .int .i64 0, .int .i64 0, .int .i64 0] 61)).lies
  rw [← HV.out] at HX
  obtain ⟨b, off, rfl, _, hc⟩ := row_cells (htk.below (Nat.le_refl _) HB.out) hi
  have y9 : V.cell? ⟨g, 9, none⟩ = some (.slice (some ⟨b, off, none⟩) hs.length cF) := (HX.out.cell 9).trans rfl
  have x0 : V.cell? ⟨b, off + 80, none⟩ = some (.int .i64 (t.kind : Nat)) := hc 0 _ rfl
  have x1 : V.cell? ⟨b, off + 80 + 1, none⟩ = some (.string ⟨t.text.toArray⟩) := hc 1 _ rfl
  have x2 : V.cell? ⟨b, off + 80 + 2, none⟩ = some (.int .i64 (t.value : Nat)) := hc 2 _ rfl
  have x3 : V.cell? ⟨b, off + 80 + 3, none⟩ = some (.int .i64 (t.line : Nat)) := hc 3 _ rfl
  have x4 : V.cell? ⟨b, off + 80 + 4, none⟩ = some (.int .i64 (t.col : Nat)) := hc 4 _ rfl
  have H5 := Lib.hid (lies_five HL.out (.int .i64 (t.kind : Nat)) (.string ⟨t.text.toArray⟩) (.int .i64 (t.value : Nat)) (.int .i64 (t.line : Nat)) (.int .i64 (t.col : Nat)))
  have HB5 := Lib.hid (below_five HB.out (Nat.le_refl _) (.int .i64 (t.kind : Nat)) (.string ⟨t.text.toArray⟩) (.int .i64 (t.value : Nat)) (.int .i64 (t.line : Nat)) (.int .i64 (t.col : Nat)))
  clear hr hrows htk hc hi
  go_enter Tryd.func31, Tryd.ntmps31
  go_upto_region 1 with fail
  rw [← HV.out]
  go_wp2
  (try simp only [Exit.inBlock, Exit.then])
  refine bodyPost_ret (results_tok rfl _ _ w.heap.size _ rfl H5.out rfl) rfl ?_
  exact ⟨rfl, HB5.out⟩
set_option maxRecDepth 100000 in
set_option maxHeartbeats 2000000 in
theorem blamedEnd (at_ : Int) (h : Rd w0 g A c ts k B n hs l w) (hh : hs.length ≤ 16) (hk : ts[k]? = some t) :
    Calls Tryd.prog 31 #[.pointer (some ⟨g, 0, none⟩), .int .i64 2, .int .i64 at_] w (Gives t w) := by
  obtain ⟨T, F, hr, hrows⟩ := h
  obtain ⟨AF, cF, rfl, _, hcF, _, _⟩ := Toks.own hrows.firsts
  have q3 : decide ((16 : Int) < (hs.length : Int)) = false := by simp; omega
  have q3' : decide (16 < hs.length) = false := by simp; omega
  obtain ⟨V, hV⟩ : ∃ V, V = w.alloc (.cells #[.int .i64 0, .string ⟨#[]⟩, .int .i64 0, .int .i64 0, .int .i64 0] 61) := ⟨_, rfl⟩
  have HV := Lib.hid hV
  have HB : Hid (Below w.heap.size w V) := by rw [hV]; exact below_new _ _
  have HL : Hid (Lies V w.heap.size 61 #[.int .i64 0, .string ⟨#[]⟩, .int .i64 0, .int .i64 0, .int .i64 0]) := by rw [hV]; exact Lies.made _ _ _
  have s0 : V.cell? ⟨w.heap.size, 0, none⟩ = some (.int .i64 0) := (HL.out.cell 0).trans rfl
  have s1 : V.cell? ⟨w.heap.size, 1, none⟩ = some (.string ⟨#[]⟩) := (HL.out.cell 1).trans rfl
  have s2 : V.cell? ⟨w.heap.size, 2, none⟩ = some (.int .i64 0) := (HL.out.cell 2).trans rfl
  have s3 : V.cell? ⟨w.heap.size, 3, none⟩ = some (.int .i64 0) := (HL.out.cell 3).trans rfl
  have s4 : V.cell? ⟨w.heap.size, 4, none⟩ = some (.int .i64 0) := (HL.out.cell 4).trans rfl
  have r0 := HL.out.thawed 0
  have r1 := HL.out.thawed 1
  have r2 := HL.out.thawed 2
  have r3 := HL.out.thawed 3
  have r4 := HL.out.thawed 4
  clear hV
  have hrV := hr.alloc (.cells #[.int .i64 0, .string ⟨#[]⟩, .int .i64 0, .int .i64 0, .int .i64 0] 61)
  rw [← HV.out] at hrV
  have KN := Lib.hid (next hrV hk)
  have y9 : V.cell? ⟨g, 9, none⟩ = some (.slice AF hs.length cF) := (hrV.lies.cell 9).trans rfl
  have hVw : w.heap.size < V.heap.size := HL.out.lt
  clear hr hrows hrV hk
  go_enter Tryd.func31, Tryd.ntmps31
  go_upto_region 1 with fail
  rw [← HV.out]
  clear s0 s1 s2 s3 s4 r0 r1 r2 r3 r4
  go_wp2_with (fail)
  with_reducible refine KN.out.mono ?_
  rintro e w1 ⟨rfl, hb⟩
  have HL1 := Lib.hid (HL.out.below hb hVw)
  have H5 := Lib.hid (lies_five HL1.out (.int .i64 (t.kind : Nat)) (.string ⟨t.text.toArray⟩) (.int .i64 (t.value : Nat)) (.int .i64 (t.line : Nat)) (.int .i64 (t.col : Nat)))
  have HB5 := Lib.hid (below_five (HB.out.trans (hb.mono HB.out.size)) (Nat.le_refl _) (.int .i64 (t.kind : Nat)) (.string ⟨t.text.toArray⟩) (.int .i64 (t.value : Nat)) (.int .i64 (t.line : Nat)) (.int .i64 (t.col : Nat)))
  have s0 : w1.cell? ⟨w.heap.size, 0, none⟩ = some (.int .i64 0) := (HL1.out.cell 0).trans rfl
  have s1 : w1.cell? ⟨w.heap.size, 1, none⟩ = some (.string ⟨#[]⟩) := (HL1.out.cell 1).trans rfl
  have s2 : w1.cell? ⟨w.heap.size, 2, none⟩ = some (.int .i64 0) := (HL1.out.cell 2).trans rfl
  have s3 : w1.cell? ⟨w.heap.size, 3, none⟩ = some (.int .i64 0) := (HL1.out.cell 3).trans rfl
  have s4 : w1.cell? ⟨w.heap.size, 4, none⟩ = some (.int .i64 0) := (HL1.out.cell 4).trans rfl
  have r0 := HL1.out.thawed 0
  have r1 := HL1.out.thawed 1
  have r2 := HL1.out.thawed 2
  have r3 := HL1.out.thawed 3
  have r4 := HL1.out.thawed 4
  clear hb
  unfold cellsT
  go_wp2
  (try simp only [Exit.inBlock, Exit.then])
  refine bodyPost_ret (results_tok rfl _ _ w.heap.size _ rfl H5.out rfl) rfl ?_
  exact ⟨rfl, HB5.out⟩
end
end Go.Proofs.YtbijgmaeechmoaaDoor
