/- The set's reader as it lies in memory; its next token. -/
import Derived.Test.YtbijgmaeechmoaaDoorPs
import Derived.Test.YtbijgmaeechmoaaDoorFd
import Derived.Test.YtbijgmaeechmoaaDoorLRd
import Derived.Test.YtbijgmaeechmoaaDoorKMk
import Derived.RegionTactic
import Derived.BigRegion
namespace Go.Proofs.YtbijgmaeechmoaaDoor
open Go.RowKit Lx Kx
set_option maxRecDepth 100000

/-- What of the reader a token's reader leaves: Burst, the tasks, burst's token, the first words. -/
structure Rest where
  B : Int
  T : Value
  b : Tok
  F : Value
def rdC (A : Option Addr) (n c k : Nat) (x : Rest) : Array Value :=
  #[.slice A n c, .int .i64 (k : Int), .int .i64 x.B, x.T, .int .i64 (x.b.kind : Nat), .string ⟨x.b.text.toArray⟩, .int .i64 (x.b.value : Nat), .int .i64 (x.b.line : Nat), .int .i64 (x.b.col : Nat), x.F]

/-- The reader at g stands at token k; all since w0. -/
structure Rs (w0 : World) (g : Nat) (A : Option Addr) (c : Nat) (ts : List Tok) (x : Rest) (k : Nat) (w : World) : Prop where
  toks : Toks w0 A ts
  ge : w0.heap.size ≤ g
  small : ts.length ≤ 1000000
  cap : ts.length ≤ c
  ends : Fin ts
  lt : k < ts.length
  below : Below w0.heap.size w0 w
  lies : Lies w g 63 (rdC A ts.length c k x)
section
variable {w0 w w' : World} {g : Nat} {A : Option Addr} {c : Nat} {ts : List Tok} {x : Rest} {k : Nat}
theorem Rs.on (h : Rs w0 g A c ts x k w) (hb : Below w.heap.size w w') : Rs w0 g A c ts x k w' :=
  ⟨h.toks, h.ge, h.small, h.cap, h.ends, h.lt, h.below.trans (hb.mono h.below.size), h.lies.below hb h.lies.lt⟩
theorem Rs.drewN (h : Rs w0 g A c ts x k w) (n : Nat) : Rs w0 g A c ts x k (w.drewN n) := h.on (below_drewN (Below.refl _ _) n)
theorem Rs.alloc (h : Rs w0 g A c ts x k w) (o : Obj) : Rs w0 g A c ts x k (w.alloc o) := h.on (below_new _ _)
theorem Rs.tok (h : Rs w0 g A c ts x k w) : ∃ t, ts[k]? = some t ∧ Fair t := ⟨_, List.getElem?_eq_getElem h.lt, h.ends.fair _ (List.getElem_mem _)⟩
/-- One token on. -/
theorem Rs.go (h : Rs w0 g A c ts x k w) {t : Tok} (hk : ts[k]? = some t) (ht : t.kind ≠ 4) : Rs w0 g A c ts x (k + 1) (w.setCell ⟨g, 1, none⟩ (.int .i64 ((k : Int) + 1))) := by
  refine ⟨h.toks, h.ge, h.small, h.cap, h.ends, h.ends.next hk ht, h.below.setCell h.ge _, ?_⟩
  simpa [rdC] using h.lies.here 1 (.int .i64 ((k : Int) + 1))
theorem Rs.there (h : Rs w0 g A c ts x k w) {a : Addr} (ha : g ≠ a.block) (hB : w0.heap.size ≤ a.block) (u : Value) : Rs w0 g A c ts x k (w.setCell a u) :=
  ⟨h.toks, h.ge, h.small, h.cap, h.ends, h.lt, h.below.setCell hB _, h.lies.there ha u⟩
theorem Rs.c0 (h : Rs w0 g A c ts x k w) : w.cell? ⟨g, 0, none⟩ = some (.slice A ts.length c) := (h.lies.cell 0).trans rfl
theorem Rs.c1 (h : Rs w0 g A c ts x k w) : w.cell? ⟨g, 1, none⟩ = some (.int .i64 (k : Int)) := (h.lies.cell 1).trans rfl
theorem Rs.here (h : Rs w0 g A c ts x k w) {t : Tok} (hk : ts[k]? = some t) : ∃ b off, A = some ⟨b, off, none⟩ ∧ b < w.heap.size ∧ ∀ j v, (cellsT t)[j]? = some v → w.cell? ⟨b, off + k * 5 + j, none⟩ = some v := by
  have hl := h.lt
  obtain ⟨b, off, ha, hlt, hc⟩ := (h.toks.below (Nat.le_refl _) h.below) (by omega)
  exact ⟨b, off, ha, hlt, fun j v hj => hc k t hk j v hj⟩
end
/-- It answers a token. -/
def Gives (t : Tok) (w : World) (e : Ending) (w' : World) : Prop := e = .returned (.agg (cellsT t).toArray) ∧ Below w.heap.size w w'

theorem results_tok {fn : Func} {s : Nat} (h : fn.results = #[.cell s 61]) (tmps : Array Value) (w : World) (g : Nat) (cs : Array Value) (hp : tmps.getD s undef = .pointer (some ⟨g, 0, none⟩)) (hL : Lies w g 61 cs) (hs : cs.size = 5) :
    (results fn tmps).run Tryd.prog w = .ok (.agg cs) w := by
  have hp' : tmps[s]?.getD undef = .pointer (some ⟨g, 0, none⟩) := by simpa using hp
  simp [results, h, hp', asAddr, run_loadVar_row (P := Tryd.prog) w g 61 61 cs (0, 0) _ hL Tryd.underlying61 rfl (by rw [hs]; rfl)]

theorem lies_five {w : World} {g : Nat} {a0 a1 a2 a3 a4 : Value} (h : Lies w g 61 #[a0, a1, a2, a3, a4]) (u0 u1 u2 u3 u4 : Value) :
    Lies (((((w.setCell ⟨g, 0, none⟩ u0).setCell ⟨g, 1, none⟩ u1).setCell ⟨g, 2, none⟩ u2).setCell ⟨g, 3, none⟩ u3).setCell ⟨g, 4, none⟩ u4) g 61 #[u0, u1, u2, u3, u4] := by
  have := ((((h.here 0 u0).here 1 u1).here 2 u2).here 3 u3).here 4 u4
  simpa using this
theorem below_five {B g : Nat} {w W : World} (h : Below B w W) (hg : B ≤ g) (u0 u1 u2 u3 u4 : Value) : Below B w (((((W.setCell ⟨g, 0, none⟩ u0).setCell ⟨g, 1, none⟩ u1).setCell ⟨g, 2, none⟩ u2).setCell ⟨g, 3, none⟩ u3).setCell ⟨g, 4, none⟩ u4) :=
  ((((h.setCell (p := ⟨g, 0, none⟩) hg u0).setCell (p := ⟨g, 1, none⟩) hg u1).setCell (p := ⟨g, 2, none⟩) hg u2).setCell (p := ⟨g, 3, none⟩) hg u3).setCell (p := ⟨g, 4, none⟩) hg u4

set_option maxRecDepth 100000 in
set_option maxHeartbeats 2000000 in
theorem next {w0 w : World} {g : Nat} {A : Option Addr} {c : Nat} {ts : List Tok} {x : Rest} {k : Nat} {t : Tok} (h : Rs w0 g A c ts x k w) (hk : ts[k]? = some t) :
    Calls Tryd.prog 29 #[.pointer (some ⟨g, 0, none⟩)] w (Gives t w) := by
  obtain ⟨b, off, rfl, hbl, hc⟩ := h.here hk
  obtain ⟨V, hV⟩ : ∃ V, V = w.alloc (.cells #[.int .i64 0, .string ⟨#[]⟩, .int .i64 0, .int .i64 0, .int .i64 0] 61) := ⟨_, rfl⟩
  have HV : Hid (V = w.alloc (.cells #[.int .i64 0, .string ⟨#[]⟩, .int .i64 0, .int .i64 0, .int .i64 0] 61)) := hV
  have hb : Below w.heap.size w V := by rw [hV]; exact below_new _ _
  have HL : Hid (Lies V w.heap.size 61 #[.int .i64 0, .string ⟨#[]⟩, .int .i64 0, .int .i64 0, .int .i64 0]) := by rw [hV]; exact Lies.made _ _ _
  have hr := h.on hb
  have x0 : V.cell? ⟨b, off + k * 5, none⟩ = some (.int .i64 (t.kind : Nat)) := (hb.cell (p := ⟨b, off + k * 5, none⟩) hbl).trans (hc 0 _ rfl)
  have x1 : V.cell? ⟨b, off + k * 5 + 1, none⟩ = some (.string ⟨t.text.toArray⟩) := (hb.cell (p := ⟨b, off + k * 5 + 1, none⟩) hbl).trans (hc 1 _ rfl)
  have x2 : V.cell? ⟨b, off + k * 5 + 2, none⟩ = some (.int .i64 (t.value : Nat)) := (hb.cell (p := ⟨b, off + k * 5 + 2, none⟩) hbl).trans (hc 2 _ rfl)
  have x3 : V.cell? ⟨b, off + k * 5 + 3, none⟩ = some (.int .i64 (t.line : Nat)) := (hb.cell (p := ⟨b, off + k * 5 + 3, none⟩) hbl).trans (hc 3 _ rfl)
  have x4 : V.cell? ⟨b, off + k * 5 + 4, none⟩ = some (.int .i64 (t.col : Nat)) := (hb.cell (p := ⟨b, off + k * 5 + 4, none⟩) hbl).trans (hc 4 _ rfl)
  have c0 := hr.c0
  have c1 := hr.c1
  have hlt := h.lt
  have hsm := h.small
  have s0 : V.cell? ⟨w.heap.size, 0, none⟩ = some (.int .i64 0) := (HL.out.cell 0).trans rfl
  have s1 : V.cell? ⟨w.heap.size, 1, none⟩ = some (.string ⟨#[]⟩) := (HL.out.cell 1).trans rfl
  have s2 : V.cell? ⟨w.heap.size, 2, none⟩ = some (.int .i64 0) := (HL.out.cell 2).trans rfl
  have s3 : V.cell? ⟨w.heap.size, 3, none⟩ = some (.int .i64 0) := (HL.out.cell 3).trans rfl
  have s4 : V.cell? ⟨w.heap.size, 4, none⟩ = some (.int .i64 0) := (HL.out.cell 4).trans rfl
  have r0 := HL.out.thawed 0
  have r1 := HL.out.thawed 1
  have r2 := HL.out.thawed 2
  have r3 := HL.out.thawed 3
  have r4 := HL.out.thawed 4
  have HB5 := Lib.hid (fun u0 u1 u2 u3 u4 => below_drewN (below_five hb (Nat.le_refl _) u0 u1 u2 u3 u4) 1)
  have HL5 := Lib.hid (fun u0 u1 u2 u3 u4 => (lies_five HL.out u0 u1 u2 u3 u4).drewN 1)
  clear h hr hc hk hb hV HL
  obtain ⟨s, hs⟩ : ∃ s : ByteArray, s = ⟨t.text.toArray⟩ := ⟨_, rfl⟩
  rw [← hs] at x1
  have HS := Lib.hid hs
  clear hs
  go_enter Tryd.func29, Tryd.ntmps29
  go_wp2
  rw [← HV.out]
  go_region
  go_wp2
  (try simp only [Exit.inBlock, Exit.then])
  refine bodyPost_ret (results_tok rfl _ _ w.heap.size _ rfl (HL5.out _ _ _ _ _) rfl) rfl ?_
  exact ⟨by rw [HS.out]; rfl, HB5.out _ _ _ _ _⟩

set_option maxHeartbeats 1000000 in
theorem nextIs {w0 w : World} {g : Nat} {A : Option Addr} {c : Nat} {ts : List Tok} {x : Rest} {k : Nat} {t : Tok} (z : Int) (h : Rs w0 g A c ts x k w) (hk : ts[k]? = some t) :
    Calls Tryd.prog 42 #[.pointer (some ⟨g, 0, none⟩), .int .i64 z] w (Tells ((t.kind : Int) == z) w) := by
  have KN := Lib.hid (next h hk)
  have F0 := field0 (.int .i64 (t.kind : Nat)) (.string ⟨t.text.toArray⟩) (.int .i64 (t.value : Nat)) (.int .i64 (t.line : Nat)) (.int .i64 (t.col : Nat))
  clear h hk
  go_enter Tryd.func42, Tryd.ntmps42
  go_wp2_with (fail)
  with_reducible refine KN.out.mono ?_
  rintro e w' ⟨rfl, hb⟩
  have HB := Lib.hid hb
  clear hb
  unfold cellsT
  go_wp2
  go_ret
  exact ⟨rfl, HB.out⟩
end Go.Proofs.YtbijgmaeechmoaaDoor
