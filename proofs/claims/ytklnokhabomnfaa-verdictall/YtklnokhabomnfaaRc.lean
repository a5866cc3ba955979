/- The recurrence of a task and a gap. -/
import Derived.Test.YtklnokhabomnfaaRo
import Derived.Test.YtklnokhabomnfaaDe
import Derived.Deep.QuietTactic
import Derived.BigQuiet
import Derived.Deep.RegionLaw
namespace Go.Proofs.Ytklnokhabomnfaa
open Go.RowKit

/-- It answers the recurrence, and true; new memory was made, nothing else. -/
def Made (O S b g p : Int) (l : List Tk) (w : World) (e : Ending) (w' : World) : Prop :=
  ∃ A n c, e = .returned (.tuple #[.agg #[.int .i64 O, .slice A n c, .int .i64 b, .int .i64 g, .int .i64 S], .bool true]) ∧ (abL p l).length = n ∧ Pairs w' A c (abL p l) ∧ Below w.heap.size w w'
theorem lies_cells {W : World} {d : Nat} {t : Tk} (h : Lies W d 39 (boxT t)) : W.cell? ⟨d, 0, none⟩ = some (.string t.name) ∧ W.cell? ⟨d, 1, none⟩ = some (.int .i64 t.T) ∧ W.cell? ⟨d, 2, none⟩ = some (.int .i64 t.D) ∧ W.cell? ⟨d, 3, none⟩ = some (.int .i64 t.C)
    ∧ W.cell? ⟨d, 4, none⟩ = some (.int .i64 t.A) ∧ W.cell? ⟨d, 5, none⟩ = some (.int .i64 t.Seg) ∧ W.cell? ⟨d, 6, none⟩ = some (.int .i64 t.Cost) ∧ W.cell? ⟨d, 7, none⟩ = some (.int .i64 t.M)
    ∧ W.cell? ⟨d, 8, none⟩ = some (.int .i64 t.K) ∧ W.cell? ⟨d, 9, none⟩ = some (.int .i64 t.Mode) ∧ W.cell? ⟨d, 10, none⟩ = some (.int .i64 t.Prio) :=
  ⟨h.cell 0, h.cell 1, h.cell 2, h.cell 3, h.cell 4, h.cell 5, h.cell 6, h.cell 7, h.cell 8, h.cell 9, h.cell 10⟩
/-- What is known on the way: the set, the result's cell, the recurrence's cell, its row. -/
structure Mid (O b g S : Int) (n0 : Nat) (a : Option Addr) (cap : Nat) (w : World) (z r B : Nat) (A : Option Addr) (n c : Nat) (L : List (Int × Int)) (W : World) : Prop where
  set : SetBox w b a n0 cap W
  res : Lies W z 56 #[.int .i64 0, .slice none 0 0, .int .i64 0, .int .i64 0, .int .i64 0]
  own : Lies W r 56 #[.int .i64 O, .slice A n c, .int .i64 b, .int .i64 g, .int .i64 S]
  row : GrowsP w B A n c L W
  apart : w.heap.size < z ∧ z < r ∧ r < B
theorem results_rec {fn : Func} {s r : Nat} (h : fn.results = #[.cell s 56, .tmp r]) (tmps : Array Value) (w : World) (g : Nat) (cs : Array Value) (hp : tmps.getD s undef = .pointer (some ⟨g, 0, none⟩)) (hL : Lies w g 56 cs) (hs : cs.size = 5) :
    (results fn tmps).run Try.prog w = .ok (.tuple #[.agg cs, tmps.getD r undef]) w := by
  have hp' : tmps[s]?.getD undef = .pointer (some ⟨g, 0, none⟩) := by simpa using hp
  simp [results, h, hp', asAddr, run_loadVar_row (P := Try.prog) w g 56 56 cs (0, 0) _ hL Try.underlying56 rfl (by rw [hs]; rfl)]
/-- What is known behind the five stores into the result's cell. -/
structure End (O b g S : Int) (w : World) (z B : Nat) (A : Option Addr) (n c : Nat) (L : List (Int × Int)) (W : World) : Prop where
  res : Lies W z 56 #[.int .i64 O, .slice A n c, .int .i64 b, .int .i64 g, .int .i64 S]
  row : GrowsP w B A n c L W
theorem Lies.drew {W : World} {b : Nat} {ty : TypeId} {cs : Array Value} (h : Lies W b ty cs) : Lies W.drew b ty cs := h
section
variable {O b g S : Int} {n0 : Nat} {a : Option Addr} {cap : Nat} {w : World} {z r B : Nat} {A A2 : Option Addr} {n c N c2 : Nat} {L L2 : List (Int × Int)} {W W' : World}
theorem Mid.tells (h : Mid O b g S n0 a cap w z r B A n c L W) (hb : Below W.heap.size W W') : Mid O b g S n0 a cap w z r B A n c L W' :=
  ⟨h.set.tells hb, h.res.below hb h.res.lt, h.own.below hb h.own.lt, h.row.tells hb, h.apart⟩
theorem Mid.drewN (h : Mid O b g S n0 a cap w z r B A n c L W) (q : Nat) : Mid O b g S n0 a cap w z r B A n c L (W.drewN q) := ⟨h.set.drewN q, h.res, h.own, ⟨below_drewN h.row.below q, h.row.low, h.row.high, h.row.own⟩, h.apart⟩
theorem Mid.drew (h : Mid O b g S n0 a cap w z r B A n c L W) : Mid O b g S n0 a cap w z r B A n c L W.drew := ⟨h.set.drewN 1, h.res, h.own, h.row.drew, h.apart⟩
/-- The longer row is stored in the recurrence. -/
theorem Mid.more (h : Mid O b g S n0 a cap w z r B A n c L W) (hp : PostP w B W A A2 N c2 L2 W') : Mid O b g S n0 a cap w z r B A2 N c2 L2 (W'.setCell ⟨r, 1, none⟩ (.slice A2 N c2)) := by
  obtain ⟨h1, h2, h3⟩ := h.apart
  have hset : Lies W' w.heap.size 24 #[.int .i64 b, .slice a n0 cap] := hp.2 _ _ _ h.set.lies (h.row.far (by omega))
  have hres := hp.2 _ _ _ h.res (h.row.far (by omega))
  have hown := hp.2 _ _ _ h.own (h.row.far h3)
  have hne : w.heap.size ≠ r := by omega
  have hnz : z ≠ r := by omega
  exact ⟨⟨hp.1.below.setCell (p := ⟨r, 1, none⟩) (show w.heap.size ≤ r by omega) _, hset.there (a := ⟨r, 1, none⟩) hne _⟩, hres.there (a := ⟨r, 1, none⟩) hnz _, hown.here 1 _, hp.1.other h3 (show w.heap.size ≤ r by omega) _, h1, h2, h3⟩
theorem Mid.ends (h : Mid O b g S n0 a cap w z r B A n c L W) : End O b g S w z B A n c L (((((W.setCell ⟨z, 0, none⟩ (.int .i64 O)).setCell ⟨z, 1, none⟩ (.slice A n c)).setCell ⟨z, 2, none⟩ (.int .i64 b)).setCell ⟨z, 3, none⟩ (.int .i64 g)).setCell ⟨z, 4, none⟩ (.int .i64 S)) := by
  obtain ⟨h1, h2, h3⟩ := h.apart
  have hz : z < B := by omega
  have hw : w.heap.size ≤ z := by omega
  refine ⟨((((h.res.here 0 _).here 1 _).here 2 _).here 3 _).here 4 _, ?_⟩
  exact ((((h.row.other (p := ⟨z, 0, none⟩) hz hw _).other (p := ⟨z, 1, none⟩) hz hw _).other (p := ⟨z, 2, none⟩) hz hw _).other (p := ⟨z, 3, none⟩) hz hw _).other (p := ⟨z, 4, none⟩) hz hw _
theorem Mid.owned (h : Mid O b g S n0 a cap w z r B A n c L W) (hp : PostP w B W A A2 N c2 L2 W') : Lies W' r 56 #[.int .i64 O, .slice A n c, .int .i64 b, .int .i64 g, .int .i64 S] := hp.2 _ _ _ h.own (h.row.far h.apart.2.2)
end
def RecRel (O b g S p : Int) (l : List Tk) (a : Option Addr) (cap : Nat) (w : World) (z r B : Nat) (i : Value) (W : World) : Prop :=
  ∃ (k : Nat) (A : Option Addr) (n c : Nat), k ≤ l.length ∧ i = .int .i64 (k : Int) ∧ Mid O b g S l.length a cap w z r B A n c (abL p (l.take k)) W
set_option maxRecDepth 100000 in
set_option maxHeartbeats 4000000 in
theorem recurrenceO (b g O S : Int) {l : List Tk} {a : Option Addr} {cap k : Nat} {o : Tk} {w : World} (hl : l.length ≤ 30) (hf : ∀ t ∈ l, Fine t) (ht : Tasks w a cap l) (ho : l[k]? = some o) (b0 : 1 ≤ b) (b1 : b ≤ 1000) (g0 : 1 ≤ g) (g1 : g ≤ 1049576) (hO : onceV l o = O) (hS : struckV b l o = S) :
    Calls Try.prog 31 #[.agg #[.int .i64 b, .slice a l.length cap], .int .i64 (k : Int), .int .i64 g] w (Made O S b g o.Prio l w) := by
  have hk := (List.getElem?_eq_some_iff.1 ho).1
  have HT := Lib.hid ht
  have HF := Lib.hid hf
  have HO := Lib.hid ho
  have HB := Lib.hid (SetBox.made w b a l.length cap)
  have HZ := Lib.hid (Lies.made (w.alloc (.cells #[.int .i64 b, .slice a l.length cap] 24)) 56 #[.int .i64 0, .slice none 0 0, .int .i64 0, .int .i64 0, .int .i64 0])
  have KP := Lib.hid (fun W => isPlace (b := b) (a := a) (cap := cap) hk W)
  have hfo := hf o (List.mem_of_getElem? ho)
  have ro := once_range hf hfo
  have rs := struck_range (o := o) b0 b1 hf
  have t1 : decide (g < 1) = false := by simp; omega
  have t2 : decide (1049576 < g) = false := by simp; omega
  rw [hO] at ro
  rw [hS] at rs
  have HOE := Lib.hid hO
  have HSE := Lib.hid hS
  clear ht hf ho hO hS
  go_enter Try.func31, Try.ntmps31
  go_upto_region 1 with fail
  obtain ⟨X, hX⟩ : ∃ X, X = (w.alloc (.cells #[.int .i64 b, .slice a l.length cap] 24)).alloc (.cells #[.int .i64 0, .slice none 0 0, .int .i64 0, .int .i64 0, .int .i64 0] 56) := ⟨_, rfl⟩
  have HB1 := Lib.hid (HB.out.tells (below_new _ (.cells #[.int .i64 0, .slice none 0 0, .int .i64 0, .int .i64 0, .int .i64 0] 56)))
  rw [← hX] at HB1 HZ ⊢
  have HZ1 : Hid (Lies X (w.heap.size + 1) 56 #[.int .i64 0, .slice none 0 0, .int .i64 0, .int .i64 0, .int .i64 0]) := Lib.hid (by simpa using HZ.out)
  clear hX HZ HB
  obtain ⟨s0, s1⟩ := HB1.out.cells
  go_wp2_with (fail)
  with_reducible refine (KP.out _).mono ?_
  rintro e w1 ⟨rfl, hb1⟩
  have HB2 := Lib.hid (HB1.out.tells hb1)
  have HZ2 := Lib.hid (HZ1.out.below hb1 HZ1.out.lt)
  clear hb1 HB1 HZ1 s0 s1 KP
  go_upto_region 3 with fail
  obtain ⟨s0, s1⟩ := HB2.out.cells
  have HT2 := Lib.hid (HT.out.below (Nat.le_refl _) HB2.out.below)
  obtain ⟨bb, off, rfl, hbl, x0, x1, x2, x3, x4, x5, x6, x7, x8, x9, x10⟩ := HT2.out.cells HO.out
  have q1 : (0 : Int) ≤ (k : Int) := by omega
  have q2 : (k : Int) < (l.length : Int) := by omega
  have k_s0 := cell_regrown s0
  have k_s1 := cell_regrown s1
  have k_x0 := cell_regrown x0
  have k_x1 := cell_regrown x1
  have k_x2 := cell_regrown x2
  have k_x3 := cell_regrown x3
  have k_x4 := cell_regrown x4
  have k_x5 := cell_regrown x5
  have k_x6 := cell_regrown x6
  have k_x7 := cell_regrown x7
  have k_x8 := cell_regrown x8
  have k_x9 := cell_regrown x9
  have k_x10 := cell_regrown x10
  have cW := fun d os => Calls.regrown_of (w := w1) (d := d) (os := os) (v := .int .i64 (wholeV o)) (wholeAny hfo _)
  have cA := fun d os => Calls.regrown_of (w := w1) (d := d) (os := os) (v := .int .i64 (maxE (aheadQ o.Prio) l)) (ahead b hl HF.out (HT2.out.below (Nat.le_refl _) (below_regrown w1 d os)) HO.out)
  have cS := fun d os => Calls.regrown_of (w := w1) (d := d) (os := os) (v := .tuple #[.int .i64 O, .bool true]) (by rw [← HOE.out]; exact (add_wide (wholeV o) (maxE (aheadQ o.Prio) l) _ (by have := whole_nums hfo; have := hfo.nums; omega) (maxE_range HF.out).1 (by have := ro.2.2; rw [← HOE.out] at this; unfold onceV at this; omega)).mono fun _ _ h => h.gives)
  simp only [aggK] at cW
  clear HOE
  generalize maxE (aheadQ o.Prio) l = av at cA cS
  generalize wholeV o = wv at cW cS
  refine wp_region_quiet_below (by kernel_rfl) (by kernel_rfl) ?_
  repeat (go_big_quiet_step (with_reducible first | exact cW _ _ | exact cA _ _ | exact cS _ _))
  refine wpQuiet_nil ?_
  intro X3 hw'
  obtain ⟨⟨dq, osq⟩, hw''⟩ := hw'
  have hbb := below_regrown w1 dq osq
  dsimp only at hw''
  rw [← hw''] at hbb
  have HB3 := Lib.hid (HB2.out.tells hbb)
  have HZ3 := Lib.hid (HZ2.out.below hbb HZ2.out.lt)
  clear hbb hw'' k_s0 k_s1 k_x0 k_x1 k_x2 k_x3 k_x4 k_x5 k_x6 k_x7 k_x8 k_x9 k_x10 cW cA cS s0 s1 x0 x1 x2 x3 x4 x5 x6 x7 x8 x9 x10 HB2 HZ2 HT2 hbl
  go_upto_region 6 with fail
  obtain ⟨s0, s1⟩ := HB3.out.cells
  have HT3 := Lib.hid (HT.out.below (Nat.le_refl _) HB3.out.below)
  have k_s0 := cell_regrown s0
  have k_s1 := cell_regrown s1
  have cD := fun d os => Calls.regrown_of (w := X3) (d := d) (os := os) (v := .int .i64 (maxE (dearQ o.Prio) l)) (dear b hl HF.out (HT3.out.below (Nat.le_refl _) (below_regrown X3 d os)) HO.out)
  have cM := fun d os => Calls.regrown_of (w := X3) (d := d) (os := os) (v := .tuple #[.int .i64 S, .bool true]) (by rw [← HSE.out]; exact (mul_wide b (maxE (dearQ o.Prio) l) _ (by omega) (by omega) (maxE_range HF.out).1 (by have := (maxE_range (q := dearQ o.Prio) HF.out).2; omega) (by have := rs.2; rw [← HSE.out] at this; unfold struckV at this; omega)).mono fun _ _ h => h.gives)
  clear HSE
  generalize maxE (dearQ o.Prio) l = dv at cD cM
  refine wp_region_quiet_below (by kernel_rfl) (by kernel_rfl) ?_
  repeat (go_big_quiet_step (with_reducible first | exact cD _ _ | exact cM _ _))
  refine wpQuiet_nil ?_
  intro X4 hw'
  obtain ⟨⟨dq2, osq2⟩, hw''⟩ := hw'
  have hbb := below_regrown X3 dq2 osq2
  dsimp only at hw''
  rw [← hw''] at hbb
  have HB4 := Lib.hid (HB3.out.tells hbb)
  have HZ4 := Lib.hid (HZ3.out.below hbb HZ3.out.lt)
  clear hbb hw'' k_s0 k_s1 cD cM s0 s1 HB3 HZ3 HT3
  go_upto_region 9 with fail
  obtain ⟨s0, s1⟩ := HB4.out.cells
  go_upto_region 10 with fail
  obtain ⟨X5, hX⟩ : ∃ X5, X5 = X4.alloc (.cells #[.int .i64 O, .slice none 0 0, .int .i64 b, .int .i64 g, .int .i64 S] 56) := ⟨_, rfl⟩
  have HR5 := Lib.hid (Lies.made X4 56 #[.int .i64 O, .slice none 0 0, .int .i64 b, .int .i64 g, .int .i64 S])
  have HB5 := Lib.hid (HB4.out.tells (below_new X4 (.cells #[.int .i64 O, .slice none 0 0, .int .i64 b, .int .i64 g, .int .i64 S] 56)))
  have HZ5 := Lib.hid (HZ4.out.alloc (.cells #[.int .i64 O, .slice none 0 0, .int .i64 b, .int .i64 g, .int .i64 S] 56))
  rw [← hX] at HR5 HB5 HZ5 ⊢
  have HGE : Hid (w.heap.size + 1 < X4.heap.size) := Lib.hid HZ4.out.lt
  have hr5 := HR5.out.lt
  clear hX s0 s1 HB4 HZ4
  generalize X4.heap.size = r at *
  obtain ⟨s0, s1⟩ := HB5.out.cells
  obtain ⟨B, hB⟩ : ∃ B, B = X5.heap.size := ⟨_, rfl⟩
  have HM5 : Hid (Mid O b g S l.length (some ⟨bb, off, none⟩) cap w (w.heap.size + 1) r B none 0 0 (abL o.Prio (l.take 0)) X5) := Lib.hid ⟨HB5.out, HZ5.out, HR5.out, GrowsP.start HB5.out.below hB.symm, by omega, HGE.out, by omega⟩
  clear hr5 hB HB5 HZ5 HR5
  go_wp2
  go_loopw [64] (fun i W => RecRel O b g S o.Prio l (some ⟨bb, off, none⟩) cap w (w.heap.size + 1) r B i W) (fun i _ => l.length - (intOf i).toNat)
  case atStart => exact ⟨0, none, 0, 0, by omega, rfl, HM5.out⟩
  case round =>
    obtain ⟨j, A, n, c, hj, rfl, hm⟩ := hrel
    have HM := Lib.hid hm
    clear hm HM5
    by_cases hlt : j < l.length
    · have t1 : decide ((j : Int) < (l.length : Int)) = true := by simp; omega
      have hx : l[j]? = some l[j] := List.getElem?_eq_getElem hlt
      have HTW := Lib.hid (HT.out.below (Nat.le_refl _) HM.out.set.below)
      obtain ⟨_, _, e1, hbl, x0, x1, x2, x3, x4, x5, x6, x7, x8, x9, x10⟩ := HTW.out.cells hx
      cases e1
      have hfx := HF.out _ (List.getElem_mem hlt)
      have HX := Lib.hid (abL_next (p := o.Prio) hx)
      have KW := Lib.hid (fun W => wholeAny hfx W)
      clear hfx hx
      generalize l[j] = x at *
      go_upto_region 13 with fail
      obtain ⟨Y, hY⟩ : ∃ Y, Y = wr.alloc (.cells (boxT x) 39) := ⟨_, rfl⟩
      have HBX := Lib.hid (Lies.made wr 39 (boxT x))
      have HMY := Lib.hid (HM.out.tells (below_new wr (.cells (boxT x) 39)))
      have HTY := Lib.hid (HTW.out.below (Nat.le_refl _) (below_new wr (.cells (boxT x) 39)))
      rw [← hY] at HBX HMY HTY
      simp only [boxT] at hY
      rw [← hY]
      clear hY x0 x1 x2 x3 x4 x5 x6 x7 x8 x9 x10 HM HTW hbl
      have hbx := HBX.out.lt
      generalize wr.heap.size = bx at *
      obtain ⟨_, _, e1, hbo, o0, o1, o2, o3, o4, o5, o6, o7, o8, o9, o10⟩ := HTY.out.cells HO.out
      cases e1
      clear o0 o1 o2 o3 o4 o5 o6 o7 o8 o9
      obtain ⟨s0, s1⟩ := HMY.out.set.cells
      obtain ⟨y0, y1, y2, y3, y4, y5, y6, y7, y8, y9, y10⟩ := lies_cells HBX.out
      have hn : n ≤ 30 := by rw [HMY.out.row.len]; have := abL_len o.Prio (l.take j); rw [List.length_take] at this; omega
      by_cases hp : x.Prio < o.Prio
      · have t3 : decide (x.Prio < o.Prio) = true := decide_eq_true hp
        rw [if_pos hp] at HX
        clear hp
        go_quiet (fail)
        go_upto_region 14 with fail
        have HBZ := Lib.hid (HBX.out.drewN nq)
        have HMZ := Lib.hid (HMY.out.drewN nq)
        have hbz : bx < (Y.drewN nq).heap.size := hbx
        generalize Y.drewN nq = Z at HBZ HMZ hbz ⊢
        clear y0 y1 y2 y3 y4 y5 y6 y7 y8 y9 y10 s0 s1 o10 HBX HMY HTY hbo hbx
        obtain ⟨y0, y1, y2, y3, y4, y5, y6, y7, y8, y9, y10⟩ := lies_cells HBZ.out
        have r1 : Z.cell? ⟨r, 1, none⟩ = some (.slice A n c) := HMZ.out.own.cell 1
        simp only [aggK] at KW
        generalize wholeV x = wx at *
        go_region_law (first
            | (refine step_append_pair (W0 := w) (B := B) (A0 := A) (n := n) (c0 := c) (zs := abL o.Prio (l.take j)) (by rfl) (.tmp 78) (.tmp 84) (by rfl) wx x.T (n + 1) (by rfl) (by rfl) (HM1.out.tells (below_new _ _)).row (Lies.made u1 73 #[.int .i64 wx, .int .i64 x.T]) rfl (by omega) ?_
               intro A2 c2 w4 hp4
               have HN4 := Lib.hid ((HM1.out.tells (below_new u1 (.cells #[.int .i64 wx, .int .i64 x.T] 73))).more hp4)
               have HL4 := Lib.hid ((HM1.out.tells (below_new u1 (.cells #[.int .i64 wx, .int .i64 x.T] 73))).owned hp4)
               have r4 : w4.cell? ⟨r, 1, none⟩ = some (.slice A n c) := HL4.out.cell 1
               have f4 := HL4.out.thawed 1
               clear hp4)
            | (go_simp
               go_at_call 40
               (with_reducible refine (KW.out _).mono ?_)
               rintro en u1 ⟨rfl, hb1⟩
               have HB1 := Lib.hid (HBZ.out.drew.below hb1 HBZ.out.lt)
               have HM1 := Lib.hid (HMZ.out.drew.tells hb1)
               have r1u : u1.cell? ⟨r, 1, none⟩ = some (.slice A n c) := HM1.out.own.cell 1
               have y1u : u1.cell? ⟨bx, 1, none⟩ = some (.int .i64 x.T) := HB1.out.cell 1
               have r1v : (u1.alloc (.cells #[.int .i64 wx, .int .i64 x.T] 73)).cell? ⟨r, 1, none⟩ = some (.slice A n c) := (HM1.out.tells (below_new _ _)).own.cell 1
               clear hb1))
        all_goals
          go_wp2
          go_roundw
          case rel => exact ⟨j + 1, A2, n + 1, c2, by omega, by go_num, by rw [HX.out]; exact HN4.out⟩
          case measure => simp [intOf]; omega
      · have t3 : decide (x.Prio < o.Prio) = false := decide_eq_false hp
        rw [if_neg hp, List.append_nil] at HX
        clear hp
        go_quiet (fail)
        go_wp2
        go_roundw
        case rel => exact ⟨j + 1, A, n, c, by omega, by go_num, by rw [HX.out]; exact HMY.out.drewN _⟩
        case measure => simp [intOf]; omega
    · have t1 : decide ((j : Int) < (l.length : Int)) = false := by simp; omega
      obtain rfl : j = l.length := by omega
      rw [List.take_length] at HM
      have hz := HM.out.apart
      have z0 : wr.cell? ⟨w.heap.size + 1, 0, none⟩ = some (.int .i64 0) := HM.out.res.cell 0
      have z1 : wr.cell? ⟨w.heap.size + 1, 1, none⟩ = some (.slice none 0 0) := HM.out.res.cell 1
      have z2 : wr.cell? ⟨w.heap.size + 1, 2, none⟩ = some (.int .i64 0) := HM.out.res.cell 2
      have z3 : wr.cell? ⟨w.heap.size + 1, 3, none⟩ = some (.int .i64 0) := HM.out.res.cell 3
      have z4 : wr.cell? ⟨w.heap.size + 1, 4, none⟩ = some (.int .i64 0) := HM.out.res.cell 4
      have f0 := HM.out.res.thawed 0
      have f1 := HM.out.res.thawed 1
      have f2 := HM.out.res.thawed 2
      have f3 := HM.out.res.thawed 3
      have f4 := HM.out.res.thawed 4
      have r0 : wr.cell? ⟨r, 0, none⟩ = some (.int .i64 O) := HM.out.own.cell 0
      have r1 : wr.cell? ⟨r, 1, none⟩ = some (.slice A n c) := HM.out.own.cell 1
      have r2 : wr.cell? ⟨r, 2, none⟩ = some (.int .i64 b) := HM.out.own.cell 2
      have r3 : wr.cell? ⟨r, 3, none⟩ = some (.int .i64 g) := HM.out.own.cell 3
      have r4 : wr.cell? ⟨r, 4, none⟩ = some (.int .i64 S) := HM.out.own.cell 4
      have HE := Lib.hid HM.out.ends
      go_wp2
      refine bodyPost_ret (results_rec rfl _ _ (w.heap.size + 1) _ rfl HE.out.res rfl) rfl ?_
      exact ⟨A, n, c, rfl, HE.out.row.len.symm, HE.out.row.pairs, HE.out.row.below⟩
theorem recurrenceOf (b g : Int) {l : List Tk} {a : Option Addr} {cap k : Nat} {o : Tk} {w : World} (hl : l.length ≤ 30) (hf : ∀ t ∈ l, Fine t) (ht : Tasks w a cap l) (ho : l[k]? = some o) (b0 : 1 ≤ b) (b1 : b ≤ 1000) (g0 : 1 ≤ g) (g1 : g ≤ 1049576) :
    Calls Try.prog 31 #[.agg #[.int .i64 b, .slice a l.length cap], .int .i64 (k : Int), .int .i64 g] w (Made (onceV l o) (struckV b l o) b g o.Prio l w) :=
  recurrenceO b g _ _ hl hf ht ho b0 b1 g0 g1 rfl rfl
end Go.Proofs.Ytklnokhabomnfaa
