/- The program's text of a task and of a set. -/
import Derived.Test.YtbijgmaeechmoaaDoorPt
import Derived.Test.YtbijgmaeechmoaaDoorKFw
namespace Go.Proofs.YtbijgmaeechmoaaDoor
open Go.RowKit Kx
set_option maxRecDepth 100000

/-- It answers v; new memory was made, nothing else. -/
def Makes (v : Value) (w : World) (e : Ending) (w' : World) : Prop := e = .returned v ∧ Below w.heap.size w w'

set_option maxHeartbeats 2000000 in
theorem task_ (t : Tk) (w : World) (hr : Room t) (ht : Tab w) : Calls Tryd.prog 10 #[aggK t] w (Makes (.string ⟨(lineW t).toArray⟩) w) := by
  obtain ⟨g, hg⟩ : ∃ g, g = w.heap.size := ⟨_, rfl⟩
  have HG := Lib.hid hg
  obtain ⟨V, hV⟩ : ∃ V, V = w.alloc (.cells #[.string t.name, .int .i64 t.T, .int .i64 t.D, .int .i64 t.C, .int .i64 t.A, .int .i64 t.Seg, .int .i64 t.Cost, .int .i64 t.M, .int .i64 t.K, .int .i64 t.Mode, .int .i64 t.Prio] 26) := ⟨_, rfl⟩
  obtain ⟨U, hU⟩ : ∃ U, U = V.alloc (.cells #[.pointer none, .slice none 0 0] 45) := ⟨_, rfl⟩
  have hVs : V.heap.size = g + 1 := by rw [hV, hg]; simp
  have hbU : Below g w U := by rw [hU, hV, hg]; exact (below_new _ _).alloc (by simp) _
  have HL := Lib.hid (show Lies U g 26 #[.string t.name, .int .i64 t.T, .int .i64 t.D, .int .i64 t.C, .int .i64 t.A, .int .i64 t.Seg, .int .i64 t.Cost, .int .i64 t.M, .int .i64 t.K, .int .i64 t.Mode, .int .i64 t.Prio] by
    rw [hU, hV, hg]; exact (Lies.made _ _ _).alloc _)
  have hbd : Bld g (g + 1) [] U := by
    have := Bld.new V (B := g) (by omega)
    rw [hVs, ← hU] at this; exact this
  have htb : TabB g U := by
    have := ht.from
    rw [← hg] at this; exact this.on hbU
  have HBU := Lib.hid hbU
  have hgU : g ≤ U.heap.size := by have := HL.out.lt; omega
  have K1 := Lib.hid (putTask g (g + 1) [] t U hbd hr (by simp) hgU htb)
  have HV := Lib.hid hV
  have HU := Lib.hid hU
  have x0 : U.cell? ⟨g, 0, none⟩ = some (.string t.name) := HL.out.cell 0
  have x1 : U.cell? ⟨g, 1, none⟩ = some (.int .i64 t.T) := HL.out.cell 1
  have x2 : U.cell? ⟨g, 2, none⟩ = some (.int .i64 t.D) := HL.out.cell 2
  have x3 : U.cell? ⟨g, 3, none⟩ = some (.int .i64 t.C) := HL.out.cell 3
  have x4 : U.cell? ⟨g, 4, none⟩ = some (.int .i64 t.A) := HL.out.cell 4
  have x5 : U.cell? ⟨g, 5, none⟩ = some (.int .i64 t.Seg) := HL.out.cell 5
  have x6 : U.cell? ⟨g, 6, none⟩ = some (.int .i64 t.Cost) := HL.out.cell 6
  have x7 : U.cell? ⟨g, 7, none⟩ = some (.int .i64 t.M) := HL.out.cell 7
  have x8 : U.cell? ⟨g, 8, none⟩ = some (.int .i64 t.K) := HL.out.cell 8
  have x9 : U.cell? ⟨g, 9, none⟩ = some (.int .i64 t.Mode) := HL.out.cell 9
  have x10 : U.cell? ⟨g, 10, none⟩ = some (.int .i64 t.Prio) := HL.out.cell 10
  clear hg hV hU hVs hbU hbd htb ht hr HL
  simp only [aggK] at K1 ⊢
  have HNIL := Lib.hid (show ([] : List UInt8) ++ lineW t = lineW t from rfl)
  generalize lineW t = L at K1 HNIL ⊢
  go_enter Tryd.func10, Tryd.ntmps10
  go_upto_region 2 with fail
  rw [← HV.out]
  rw [← HU.out]
  try rw [← HG.out]
  go_wp2_with (fail)
  with_reducible refine K1.out.mono ?_
  rintro e w1 ⟨rfl, h1, hb1, hk1⟩
  rw [HNIL.out] at h1
  have K2 := Lib.hid (string_ g (g + 1) L w1 h1 (Nat.le_trans hgU hb1.size))
  have HB1 := Lib.hid (HBU.out.trans hb1)
  clear h1 hb1 hk1
  go_wp2_with (fail)
  with_reducible refine K2.out.mono ?_
  rintro e w2 ⟨rfl, h2, hb2, hk2⟩
  have HB2 := Lib.hid (HB1.out.trans hb2)
  clear h2 hb2 hk2
  go_wp2
  go_ret
  refine ⟨rfl, ?_⟩
  have := HB2.out
  rw [HG.out] at this
  exact this
end Go.Proofs.YtbijgmaeechmoaaDoor
