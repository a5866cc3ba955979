/- A token more: the reader's put. -/
import Derived.Test.YtbijgmaeechmoaaDoorLRd
import Derived.Lib.AppendZerosOnto
import Derived.Deep.RegionLaw
namespace Go.Proofs.YtbijgmaeechmoaaDoor.Lx
open Go.RowKit

set_option maxRecDepth 100000 in
theorem tokInfo : ∃ i z, Tryd.prog.info? 61 = some i ∧ i.zero = some z ∧ i.size = 5 ∧ i.bytes = 48 ∧ z.cells.size = 5 := ⟨_, _, rfl, rfl, rfl, rfl, rfl⟩

/-- How a row of tokens stands behind an append: it is the old one, or a new one. -/
def LongerT (base : Nat) (w : World) (v : Value) (n : Nat) (zs : List Tok) (A : Option Addr) (cap : Nat) (w' : World) : Prop :=
  w'.ownsRow base 61 5 (.slice A n cap) n (flatT zs) ∧ w.grownBy w' v.ownBlock ∧ ((Value.slice A n cap).ownBlock = v.ownBlock ∨ (Value.slice A n cap).ownBlock = some w.heap.size)

theorem run_append_tok {w : World} (ty : TypeId) {base n c b : Nat} {v : Value} {xs : List Tok} {t : Tok} (ho : w.ownsRow base 61 5 v n (flatT xs)) (hb : Lies w b 61 (cellsT t).toArray) (hn : n ≤ 1000000) (hbase : base ≤ w.heap.size) :
    ∃ A cap w', (Builtin.append_ #[57, 57] ty #[v, .slice (some ⟨b, 0, none⟩) 1 c]).run Tryd.prog w = .ok (.slice A (n + 1) cap) w' ∧ LongerT base w v (n + 1) (xs ++ [t]) A cap w' := by
  obtain ⟨i, z, hi, hz, hs, hbt, hzs⟩ := tokInfo
  obtain ⟨g, cap, w', hrun, h1, h2, h3, h4⟩ := run_append_lies (P := Tryd.prog) w 57 ty base 61 i z 5 48 Tryd.underlying57 hi hz hs hbt hzs (by omega) v n (flatT xs) ho ⟨b, 0, none⟩ 1 c (cellsT t) rfl (fun j u hu => by
      rw [Addr.add_lit, Nat.zero_add, hb.cell, ← Array.getElem?_toList]; exact hu) (one_cellsT t) (by omega) (by unfold maxLen; omega) (by omega) hbase w.heap.size rfl
  refine ⟨_, cap, w', hrun, by rw [flatT_append]; simpa [flatT] using h1, h2, ?_⟩
  rcases h3 with h | h
  · exact .inl (by rw [h]; rfl)
  · exact .inr (by rw [h]; rfl)

theorem wpList_append_tok {w : World} {ops : Array Oper} {rest : List Oper} {o : Oper} {a : Act} {Q : Exit → Act → World → Prop} (hgd : o.guard = none) (s x : Operand)
    (hop : o.op = .call { callee := .builtin .append, args := #[s, x], argTypes := #[57, 57] })
    (base n c N b : Nat) (v : Value) (xs : List Tok) (t : Tok) (hs : a.eval s = v) (hx : a.eval x = .slice (some ⟨b, 0, none⟩) 1 c)
    (ho : w.ownsRow base 61 5 v n (flatT xs)) (hb : Lies w b 61 (cellsT t).toArray) (hN : n + 1 = N) (hn : n ≤ 1000000) (hbase : base ≤ w.heap.size)
    (h : ∀ A cap w', LongerT base w v N (xs ++ [t]) A cap w' → wpList Tryd.prog ops Q rest (a.put o.dst (.slice A N cap)) w') : wpList Tryd.prog ops Q (o :: rest) a w := by
  subst hN
  obtain ⟨A, cap, w', hrun, hl⟩ := run_append_tok o.type (c := c) ho hb hn hbase
  exact Lib.wpList_append_run w hgd s x 57 57 hop _ _ hs hx _ _ hrun (h A cap w' hl)

theorem step_append_tok {w : World} {ops : Array Oper} {o : Oper} {a : Act} {K : Act → World → Prop} {Q : Exit → Act → World → Prop} {E : Prop} (hgd : o.guard = none) (s x : Operand)
    (hop : o.op = .call { callee := .builtin .append, args := #[s, x], argTypes := #[57, 57] })
    (base n c N b : Nat) (v : Value) (xs : List Tok) (t : Tok) (hs : a.eval s = v) (hx : a.eval x = .slice (some ⟨b, 0, none⟩) 1 c)
    (ho : w.ownsRow base 61 5 v n (flatT xs)) (hb : Lies w b 61 (cellsT t).toArray) (hN : n + 1 = N) (hn : n ≤ 1000000) (hbase : base ≤ w.heap.size)
    (h : ∀ A cap w', LongerT base w v N (xs ++ [t]) A cap w' → K (a.put o.dst (.slice A N cap)) w') :
    if Region.wanted o (yielded ops a.tmps) = true then Oper.wp Tryd.prog o a w K Q else E := by
  have hw : Region.wanted o (yielded ops a.tmps) = true := by simp [Region.wanted, hgd]
  rw [if_pos hw]
  subst hN
  obtain ⟨A, cap, w', hrun, hl⟩ := run_append_tok o.type (c := c) ho hb hn hbase
  exact Lib.wp_append_run w s x 57 57 hop _ _ hs hx _ _ hrun (h A cap w' hl)

theorem lies_longerT {W w1 : World} {base g n c : Nat} {t : TypeId} {cs : Array Value} {v : Value} {zs : List Tok} {A : Option Addr} (hL : Lies W g t cs) (hl : LongerT base W v n zs A c w1) (hv : v.ownBlock ≠ some g) : Lies w1 g t cs := by
  unfold Lies; rw [hl.2.1.block g hL.lt (fun e => hv e.symm)]; exact hL
/-- The reader with the longer row. -/
theorem Rdr.longer {w0 W w1 : World} {g : Nat} {a : Option Addr} {len cap i line beg n m c : Nat} {v : Value} {xs ts : List Tok} {A : Option Addr} (hb : Below w0.heap.size w0 W) (hge : w0.heap.size ≤ g) (hL : Lies W g 74 #[.slice a len cap, .int .i64 (i : Int), .int .i64 (line : Int), .int .i64 (beg : Int), v])
    (ho : W.ownsRow w0.heap.size 61 5 v m (flatT xs)) (hl : LongerT w0.heap.size W v n ts A c w1) (hv : v.ownBlock ≠ some g) (hn : n = ts.length) : Rdr w0 g a len cap i line beg ts (w1.setCell ⟨g, 4, none⟩ (.slice A n c)) := by
  have hne : (Value.slice A n c).ownBlock ≠ some g := by
    rcases hl.2.2 with h | h
    · rw [h]; exact hv
    · rw [h]; intro e; have := hL.lt; have := Option.some.inj e; omega
  refine ⟨(Below.grown hb hl.2.1 hb.size (fun k hk => (own_lt ho hk).1)).setCell hge _, hge, .slice A n c, ?_, ?_, hne⟩
  · simpa using (lies_longerT hL hl hv).here 4 (.slice A n c)
  · rw [← hn]; exact own_same hl.1 (fun b hb' => Below.heap_setCell w1 _ _ b (fun e => hne (by rw [hb', e])))

/-- A token more, and on behind it. -/
def Puts (w0 : World) (g : Nat) (a : Option Addr) (len cap i line beg : Nat) (ts : List Tok) (e : Ending) (w' : World) : Prop :=
  e = .returned (.tuple #[]) ∧ Rdr w0 g a len cap i line beg ts w'

set_option maxRecDepth 100000 in
set_option maxHeartbeats 4000000 in
theorem put_some (l : List UInt8) (w0 : World) (g b off cap i line beg : Nat) (ts : List Tok) (kind n value : Nat) {w : World} (hl : l.length ≤ 1000000) (hn : i + n ≤ l.length) (hic : i < cap) (hbi : beg ≤ i) (hts : ts.length ≤ 1000000)
    (hb : Bytes w0 (some ⟨b, off, none⟩) cap l) (h : Rdr w0 g (some ⟨b, off, none⟩) l.length cap i line beg ts w) :
    Calls Tryd.prog 39 #[.pointer (some ⟨g, 0, none⟩), .int .i64 (kind : Int), .int .i64 (n : Int), .int .i64 (value : Int)] w
      (Puts w0 g (some ⟨b, off, none⟩) l.length cap (i + n) line beg (ts ++ [⟨kind, (l.drop i).take n, value, line, i - beg + 1⟩])) := by
  obtain ⟨C, hC⟩ : ∃ C, C = i - beg + 1 := ⟨_, rfl⟩
  rw [← hC]
  have KC : Hid (∀ w' : World, w'.cell? ⟨g, 1, none⟩ = some (.int .i64 (i : Int)) → w'.cell? ⟨g, 3, none⟩ = some (.int .i64 (beg : Int)) → Calls Tryd.prog 38 #[.pointer (some ⟨g, 0, none⟩)] w' (Saw (.int .i64 (C : Int)) w')) := fun w' h1 h3 => by rw [hC]; exact col g i beg hbi (by omega) h1 h3
  clear hC
  have hbw := hb.below (Nat.le_refl _) h.below
  have hcv : ∀ m c, (convert 40 9 (.slice (some ⟨b, off + i, none⟩) n c)).run Tryd.prog (w.drewN m) = .ok (.string ⟨((l.drop i).take n).toArray⟩) (w.drewN m) := fun m c => (hbw.drewN m).text hn rfl (by omega) c
  have hle := hb.le
  obtain ⟨v, hLies, hown, hvg⟩ := h.body
  have c0 := (hLies.cell 0).trans rfl
  have c1 := (hLies.cell 1).trans rfl
  have q1 : ¬ (cap = i) := by omega
  have q2 : i + n ≤ cap := by omega
  have q3 : n ≤ cap - i := by omega
  generalize (l.drop i).take n = T at hcv
  have HH := Lib.hid h
  have HB := Lib.hid hbw
  have HL := Lib.hid hLies
  have HO := Lib.hid hown
  have HV := Lib.hid hvg
  clear h hbw hLies hown hvg hb
  go_enter Tryd.func39, Tryd.ntmps39
  go_wp2
  go_quiet (fail)
  obtain ⟨A, c, rfl, hnc, _⟩ := own_form HO.out
  have HL1 := Lib.hid (HL.out.drewN nq)
  have HO1 : Hid ((w.drewN nq).ownsRow w0.heap.size 61 5 (.slice A ts.length c) ts.length (flatT ts)) := HO.out
  have HB1 := Lib.hid (below_drewN HH.out.below nq)
  have HGE := Lib.hid HH.out.ge
  clear c0 c1 hcv HB HL HO HH
  generalize w.drewN nq = W at HL1 HO1 HB1 ⊢
  have d1 : W.cell? ⟨g, 1, none⟩ = some (.int .i64 (i : Int)) := (HL1.out.cell 1).trans rfl
  have d2 : W.cell? ⟨g, 2, none⟩ = some (.int .i64 (line : Int)) := (HL1.out.cell 2).trans rfl
  have d3 : W.cell? ⟨g, 3, none⟩ = some (.int .i64 (beg : Int)) := (HL1.out.cell 3).trans rfl
  have d4 : W.cell? ⟨g, 4, none⟩ = some (.slice A ts.length c) := (HL1.out.cell 4).trans rfl
  have f4 := HL1.out.thawed 4
  have HO2 : Hid (∀ k, (W.drewN k).ownsRow w0.heap.size 61 5 (.slice A ts.length c) ts.length (flatT ts)) := fun _ => HO1.out
  have hgW := HL1.out.lt
  have hWs := HB1.out.size
  have hgW' : W.heap.size ≠ g := by omega
  have hAl : ∀ k o, ((W.drewN k).alloc o).cell? ⟨g, 4, none⟩ = some (.slice A ts.length c) := fun k o => (((HL1.out.drewN k).alloc o).cell 4).trans rfl
  go_wp2_with (fail)
  go_region_law
    (first
      | (go_simp; go_at_call 38; (refine (KC.out _ (by exact d1) (by exact d3)).mono ?_); rintro e w' ⟨rfl, m, rfl⟩)
      | (refine step_append_tok rfl (.tmp 29) (.tmp 40) rfl w0.heap.size ts.length 1 (ts.length + 1) W.heap.size (.slice A ts.length c) ts ⟨kind, T, value, line, C⟩ (by rfl) (by rfl) (by exact World.ownsRow.alloc (HO2.out _) _) (by exact Lies.made (W.drewN _) 61 _) rfl hts (by simp; omega) ?_
         intro A1 c1 w1 hl1
         have L1 := lies_longerT ((HL1.out.drewN _).alloc _) hl1 HV.out
         have D4 : w1.cell? ⟨g, 4, none⟩ = some (.slice A ts.length c) := (L1.cell 4).trans rfl
         have F4 := L1.thawed 4))
  all_goals
    have HR := Lib.hid (Rdr.longer (i := i) ((below_drewN HB1.out (1 + m)).alloc (by exact hWs) _) HGE.out ((HL1.out.drewN (1 + m)).alloc _) (World.ownsRow.alloc (HO2.out _) _) hl1 HV.out (by simp))
    clear hl1 L1 D4 F4 hAl
    generalize w1.setCell ⟨g, 4, none⟩ (.slice A1 (ts.length + 1) c1) = W2 at HR ⊢
    obtain ⟨v2, hL2, _, _⟩ := HR.out.body
    have e1 : W2.cell? ⟨g, 1, none⟩ = some (.int .i64 (i : Int)) := (hL2.cell 1).trans rfl
    have f1 := hL2.thawed 1
    clear hL2
    go_wp2
    go_end0
    exact ⟨rfl, by have := HR.out.goto (i + n); simpa using this⟩
end Go.Proofs.YtbijgmaeechmoaaDoor.Lx
