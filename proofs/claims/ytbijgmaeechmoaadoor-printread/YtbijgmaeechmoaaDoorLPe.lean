/- A token more where the text, and its room, are at their end. -/
import Derived.Test.YtbijgmaeechmoaaDoorLPt
namespace Go.Proofs.YtbijgmaeechmoaaDoor.Lx
open Go.RowKit
set_option maxRecDepth 100000

set_option maxRecDepth 100000 in
set_option maxHeartbeats 4000000 in
theorem put_end (w0 : World) (g i line beg : Nat) (a : Option Addr) (ts : List Tok) (kind value : Nat) {w : World} (hl : i ≤ 1000000) (hbi : beg ≤ i) (hts : ts.length ≤ 1000000)
    (h : Rdr w0 g a i i i line beg ts w) :
    Calls Tryd.prog 39 #[.pointer (some ⟨g, 0, none⟩), .int .i64 (kind : Int), .int .i64 0, .int .i64 (value : Int)] w
      (Puts w0 g a i i i line beg (ts ++ [⟨kind, [], value, line, i - beg + 1⟩])) := by
  obtain ⟨C, hC⟩ : ∃ C, C = i - beg + 1 := ⟨_, rfl⟩
  rw [← hC]
  have KC : Hid (∀ w' : World, w'.cell? ⟨g, 1, none⟩ = some (.int .i64 (i : Int)) → w'.cell? ⟨g, 3, none⟩ = some (.int .i64 (beg : Int)) → Calls Tryd.prog 38 #[.pointer (some ⟨g, 0, none⟩)] w' (Saw (.int .i64 (C : Int)) w')) := fun w' h1 h3 => by rw [hC]; exact col g i beg hbi (by omega) h1 h3
  clear hC
  have hcv : ∀ m c, (convert 40 9 (.slice a 0 c)).run Tryd.prog (w.drewN m) = .ok (.string ⟨#[]⟩) (w.drewN m) := fun m c => text_none (w.drewN m) a c
  obtain ⟨v, hLies, hown, hvg⟩ := h.body
  have c0 := (hLies.cell 0).trans rfl
  have c1 := (hLies.cell 1).trans rfl
  have HH := Lib.hid h
  have HL := Lib.hid hLies
  have HO := Lib.hid hown
  have HV := Lib.hid hvg
  clear h hLies hown hvg
  go_enter Tryd.func39, Tryd.ntmps39
  go_wp2
  go_quiet (fail)
  obtain ⟨A, c, rfl, hnc, _⟩ := own_form HO.out
  have HL1 := Lib.hid (HL.out.drewN nq)
  have HO1 : Hid ((w.drewN nq).ownsRow w0.heap.size 61 5 (.slice A ts.length c) ts.length (flatT ts)) := HO.out
  have HB1 := Lib.hid (below_drewN HH.out.below nq)
  have HGE := Lib.hid HH.out.ge
  clear c0 c1 hcv HL HO HH
  generalize w.drewN nq = W at HL1 HO1 HB1 ⊢
  have d1 : W.cell? ⟨g, 1, none⟩ = some (.int .i64 (i : Int)) := (HL1.out.cell 1).trans rfl
  have d2 : W.cell? ⟨g, 2, none⟩ = some (.int .i64 (line : Int)) := (HL1.out.cell 2).trans rfl
  have d3 : W.cell? ⟨g, 3, none⟩ = some (.int .i64 (beg : Int)) := (HL1.out.cell 3).trans rfl
  have d4 : W.cell? ⟨g, 4, none⟩ = some (.slice A ts.length c) := (HL1.out.cell 4).trans rfl
  have f4 := HL1.out.thawed 4
  have HO2 : Hid (∀ k, (W.drewN k).ownsRow w0.heap.size 61 5 (.slice A ts.length c) ts.length (flatT ts)) := fun _ => HO1.out
  have hgW := HL1.out.lt
  have hWs := HB1.out.size
  have hgW' : W.heap.size ≠ g := by omega
  have hAl : ∀ k o, ((W.drewN k).alloc o).cell? ⟨g, 4, none⟩ = some (.slice A ts.length c) := fun k o => (((HL1.out.drewN k).alloc o).cell 4).trans rfl
  go_wp2_with (fail)
  go_region_law
    (first
      | (go_simp; go_at_call 38; (refine (KC.out _ (by exact d1) (by exact d3)).mono ?_); rintro e w' ⟨rfl, m, rfl⟩)
      | (refine step_append_tok rfl (.tmp 29) (.tmp 40) rfl w0.heap.size ts.length 1 (ts.length + 1) W.heap.size (.slice A ts.length c) ts ⟨kind, [], value, line, C⟩ (by rfl) (by rfl) (by exact World.ownsRow.alloc (HO2.out _) _) (by exact Lies.made (W.drewN _) 61 _) rfl hts (by simp; omega) ?_
         intro A1 c1 w1 hl1
         have L1 := lies_longerT ((HL1.out.drewN _).alloc _) hl1 HV.out
         have D4 : w1.cell? ⟨g, 4, none⟩ = some (.slice A ts.length c) := (L1.cell 4).trans rfl
         have F4 := L1.thawed 4))
  all_goals
    have HR := Lib.hid (Rdr.longer (i := i) ((below_drewN HB1.out (1 + m)).alloc (by exact hWs) _) HGE.out ((HL1.out.drewN (1 + m)).alloc _) (World.ownsRow.alloc (HO2.out _) _) hl1 HV.out (by simp))
    clear hl1 L1 D4 F4 hAl
    generalize w1.setCell ⟨g, 4, none⟩ (.slice A1 (ts.length + 1) c1) = W2 at HR ⊢
    obtain ⟨v2, hL2, _, _⟩ := HR.out.body
    have e1 : W2.cell? ⟨g, 1, none⟩ = some (.int .i64 (i : Int)) := (hL2.cell 1).trans rfl
    have f1 := hL2.thawed 1
    clear hL2
    go_wp2
    go_end0
    exact ⟨rfl, by have := HR.out.goto i; simpa using this⟩
end Go.Proofs.YtbijgmaeechmoaaDoor.Lx
