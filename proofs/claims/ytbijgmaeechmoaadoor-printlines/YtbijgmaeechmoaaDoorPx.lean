/- The program's text of a task and of a set. The program's text of a set. -/
import Derived.Test.YtbijgmaeechmoaaDoorBu
import Derived.Test.YtbijgmaeechmoaaDoorKFw
namespace Go.Proofs.YtbijgmaeechmoaaDoor
open Go.RowKit Kx
set_option maxRecDepth 100000

/-- It answers v; new memory was made, nothing else. -/
def Makes (v : Value) (w : World) (e : Ending) (w' : World) : Prop := e = .returned v ∧ Below w.heap.size w w'

set_option maxHeartbeats 2000000 in
theorem task_ (t : Tk) (w : World) (hr : Room t) (ht : Tab w) : Calls Tryd.prog 10 #[aggK t] w (Makes (.string ⟨(lineW t).toArray⟩) w) := by
  obtain ⟨g, hg⟩ : ∃ g, g = w.heap.size := ⟨_, rfl⟩
  have HG := Lib.hid hg
  obtain ⟨V, hV⟩ : ∃ V, V = w.alloc (.cells #[.string t.name, .int .i64 t.T, .int .i64 t.D, .int .i64 t.C, .int .i64 t.A, .int .i64 t.Seg, .int .i64 t.Cost, .int .i64 t.M, .int .i64 t.K, .int .i64 t.Mode, .int .i64 t.Prio] 26) := ⟨_, rfl⟩
  obtain ⟨U, hU⟩ : ∃ U, U = V.alloc (.cells #[.pointer none, .slice none 0 0] 45) := ⟨_, rfl⟩
  have hVs : V.heap.size = g + 1 := by rw [hV, hg]; simp
  have hbU : Below g w U := by rw [hU, hV, hg]; exact (below_new _ _).alloc (by simp) _
  have HL := Lib.hid (show Lies U g 26 #[.string t.name, .int .i64 t.T, .int .i64 t.D, .int .i64 t.C, .int .i64 t.A, .int .i64 t.Seg, .int .i64 t.Cost, .int .i64 t.M, .int .i64 t.K, .int .i64 t.Mode, .int .i64 t.Prio] by
    rw [hU, hV, hg]; exact (Lies.made _ _ _).alloc _)
  have hbd : Bld g (g + 1) [] U := by
    have := Bld.new V (B := g) (by omega)
    rw [hVs, ← hU] at this; exact this
  have htb : TabB g U := by
    have := ht.from
    rw [← hg] at this; exact this.on hbU
  have HBU := Lib.hid hbU
  have hgU : g ≤ U.heap.size := by have := HL.out.lt; omega
  have K1 := Lib.hid (putTask g (g + 1) [] t U hbd hr (by simp) hgU htb)
  have HV := Lib.hid hV
  have HU := Lib.hid hU
  have x0 : U.cell? ⟨g, 0, none⟩ = some (.string t.name) := HL.out.cell 0
  have x1 : U.cell? ⟨g, 1, none⟩ = some (.int .i64 t.T) := HL.out.cell 1
  have x2 : U.cell? ⟨g, 2, none⟩ = some (.int .i64 t.D) := HL.out.cell 2
  have x3 : U.cell? ⟨g, 3, none⟩ = some (.int .i64 t.C) := HL.out.cell 3
  have x4 : U.cell? ⟨g, 4, none⟩ = some (.int .i64 t.A) := HL.out.cell 4
  have x5 : U.cell? ⟨g, 5, none⟩ = some (.int .i64 t.Seg) := HL.out.cell 5
  have x6 : U.cell? ⟨g, 6, none⟩ = some (.int .i64 t.Cost) := HL.out.cell 6
  have x7 : U.cell? ⟨g, 7, none⟩ = some (.int .i64 t.M) := HL.out.cell 7
  have x8 : U.cell? ⟨g, 8, none⟩ = some (.int .i64 t.K) := HL.out.cell 8
  have x9 : U.cell? ⟨g, 9, none⟩ = some (.int .i64 t.Mode) := HL.out.cell 9
  have x10 : U.cell? ⟨g, 10, none⟩ = some (.int .i64 t.Prio) := HL.out.cell 10
  clear hg hV hU hVs hbU hbd htb ht hr HL
  simp only [aggK] at K1 ⊢
  have HNIL := Lib.hid (show ([] : List UInt8) ++ lineW t = lineW t from rfl)
  generalize lineW t = L at K1 HNIL ⊢
  go_enter Tryd.func10, Tryd.ntmps10
  go_upto_region 2 with fail
  rw [← HV.out]
  rw [← HU.out]
  try rw [← HG.out]
  go_wp2_with (fail)
  with_reducible refine K1.out.mono ?_
  rintro e w1 ⟨rfl, h1, hb1, hk1⟩
  rw [HNIL.out] at h1
  have K2 := Lib.hid (string_ g (g + 1) L w1 h1 (Nat.le_trans hgU hb1.size))
  have HB1 := Lib.hid (HBU.out.trans hb1)
  clear h1 hb1 hk1
  go_wp2_with (fail)
  with_reducible refine K2.out.mono ?_
  rintro e w2 ⟨rfl, h2, hb2, hk2⟩
  have HB2 := Lib.hid (HB1.out.trans hb2)
  clear h2 hb2 hk2
  go_wp2
  go_ret
  refine ⟨rfl, ?_⟩
  have := HB2.out
  rw [HG.out] at this
  exact this
end Go.Proofs.YtbijgmaeechmoaaDoor
namespace Go.Proofs.YtbijgmaeechmoaaDoor
open Go.RowKit Kx
set_option maxRecDepth 100000

theorem wide_of {n : Int} (h : 0 ≤ n ∧ n ≤ 1048576) : Wide n := ⟨by omega, by omega⟩
theorem Fine.room {t : Tk} (h : Fine t) : Room t := by
  have s := h.small
  exact ⟨by have := nm_short h.name; omega, wide_of s.T, wide_of s.D, wide_of s.C, wide_of s.A, wide_of s.Seg, wide_of s.Cost, wide_of s.M, wide_of s.K, wide_of s.Prio⟩
theorem linesW_len : ∀ (l : List Tk), (∀ t ∈ l, Fine t) → (linesW l).length ≤ 1401 * l.length
  | [], _ => by simp [linesW]
  | t :: l, h => by
    have h1 := lineW_len (h t (by simp)).room
    have h2 := linesW_len l (fun u hu => h u (by simp [hu]))
    simp only [linesW, List.length_append, List.length_cons]
    omega
theorem lines_next {l : List Tk} {k : Nat} (h : k < l.length) : linesW (l.take (k + 1)) = linesW (l.take k) ++ lineW l[k] ++ [10] := by
  rw [List.take_succ_eq_append_getElem h, linesW_append]
  simp [linesW]
def preW (b : Int) : List UInt8 := [98, 117, 114, 115, 116] ++ numsW [b] ++ [10]
theorem textW_pre (b : Int) (l : List Tk) : textW b l = preW b ++ linesW l := by simp [textW, preW, sBurst]
def SetRel (g g1 : Nat) (pre : List UInt8) (l : List Tk) (U : World) (i : Value) (W : World) : Prop :=
  ∃ k : Nat, k ≤ l.length ∧ i = .int .i64 (k : Int) ∧ Now g g1 (pre ++ linesW (l.take k)) U W

set_option maxHeartbeats 4000000 in
theorem set_ (b : Int) (l : List Tk) (a : Option Addr) (cap : Nat) {w : World} (hm : l.length ≤ maxLen) (ht : Tasks w a cap l) (hT : Tab w) :
    Calls Tryd.prog 9 #[.agg #[.int .i64 b, .slice a l.length cap]] w (Makes (.tuple #[.string ⟨(printA b l).1.toArray⟩, .int .i64 (printA b l).2]) w) := by
  obtain ⟨g, hg⟩ : ∃ g, g = w.heap.size := ⟨_, rfl⟩
  have HG := Lib.hid hg
  obtain ⟨V, hV⟩ : ∃ V, V = w.alloc (.cells #[.int .i64 b, .slice a l.length cap] 24) := ⟨_, rfl⟩
  have hbV : Below g w V := by rw [hV, hg]; exact below_new _ _
  have HLV := Lib.hid (show Lies V g 24 #[.int .i64 b, .slice a l.length cap] by rw [hV, hg]; exact Lies.made _ _ _)
  have hgV : g < V.heap.size := HLV.out.lt
  have HTK := Lib.hid (show Tasks w a cap l from ht)
  have HTB := Lib.hid (show TabB g w by have := hT.from; rw [← hg] at this; exact this)
  have K0 := Lib.hid (right b l a cap (w := V) hm (ht.below (B := g) (by omega) hbV))
  have HBV := Lib.hid hbV
  have HV := Lib.hid hV
  have x0 : V.cell? ⟨g, 0, none⟩ = some (.int .i64 b) := HLV.out.cell 0
  have x1 : V.cell? ⟨g, 1, none⟩ = some (.slice a l.length cap) := HLV.out.cell 1
  have HM := Lib.hid hm
  have HGW := Lib.hid (show w.heap.size ≤ g by omega)
  clear hg hV hbV ht hT hm
  cases hR : ((whyF b l).1 == 0) with
  | false =>
    have HA := Lib.hid (show printA b l = ([], 1) from if_neg (by simpa using hR))
    rw [hR] at K0
    clear hR
    go_enter Tryd.func9, Tryd.ntmps9
    go_upto_region 1 with fail
    rw [← HV.out]
    try rw [← HG.out]
    go_wp2_with (fail)
    with_reducible refine K0.out.mono ?_
    rintro e w1 ⟨rfl, hb1⟩
    have HB1 := Lib.hid (HBV.out.trans (hb1.mono (Nat.le_of_lt hgV)))
    clear hb1
    go_wp2
    go_ret2
    refine ⟨by rw [HA.out]; rfl, ?_⟩
    have := HB1.out
    rw [HG.out] at this
    exact this
  | true =>
    have hw : (whyF b l).1 = 0 := by simpa using hR
    have HA := Lib.hid (show printA b l = (preW b ++ linesW l, 0) by rw [← textW_pre]; exact if_pos hw)
    have HF := Lib.hid (fines hw)
    have h16 : l.length ≤ 16 := ((right_iff b l).1 hw).2.1.2
    have hWb : Wide b := by have := ((right_iff b l).1 hw).1; exact ⟨by omega, by omega⟩
    rw [hR] at K0
    clear hR hw
    go_enter Tryd.func9, Tryd.ntmps9
    go_upto_region 1 with fail
    rw [← HV.out]
    try rw [← HG.out]
    go_wp2_with (fail)
    with_reducible refine K0.out.mono ?_
    rintro e w1 ⟨rfl, hb1⟩
    have HB1 := Lib.hid (HBV.out.trans (hb1.mono (Nat.le_of_lt hgV)))
    have HL1 := Lib.hid (HLV.out.below hb1 hgV)
    have hg1 : g < w1.heap.size := HL1.out.lt
    clear hb1 x0 x1 K0 HLV
    obtain ⟨g1, hg1'⟩ : ∃ g1, g1 = w1.heap.size := ⟨_, rfl⟩
    have HG1 := Lib.hid hg1'
    obtain ⟨U, hU⟩ : ∃ U, U = w1.alloc (.cells #[.pointer none, .slice none 0 0] 45) := ⟨_, rfl⟩
    have HU := Lib.hid hU
    have HN0 := Lib.hid (show Now g g1 [] U U from ⟨by
      have := Bld.new w1 (B := g) (by omega)
      rw [← hg1', ← hU] at this; exact this, Below.refl _ _, Lib.OthersKept.refl _ _ _⟩)
    have HBU := Lib.hid (show Below g w U by rw [hU]; exact HB1.out.alloc (by omega) _)
    have hgU : g ≤ U.heap.size := by rw [hU]; simp; omega
    have hne : g ≠ g1 := by omega
    have HLU := Lib.hid (show Lies U g 24 #[.int .i64 b, .slice a l.length cap] by rw [hU]; exact HL1.out.alloc _)
    have K1 := Lib.hid (writeText g g1 [] ⟨#[98, 117, 114, 115, 116]⟩ U HN0.out.bld (by show 0 + 5 ≤ 1000000; omega) hgU)
    clear hg1' hU HL1 hg1
    go_upto_region 4 with fail
    rw [← HU.out]
    try rw [← HG1.out]
    go_wp2_with (fail)
    with_reducible refine K1.out.mono ?_
    intro e w2 hw2
    obtain ⟨he, hw2'⟩ := hw2
    subst he
    have N1 := Lib.hid (HN0.out.then (e := .returned (.tuple #[])) (v := .tuple #[]) ⟨rfl, hw2'⟩)
    have L1 := Lib.hid (HLU.out.kept hw2'.2.2 hne (by decide))
    clear hw2' K1
    have y0 : w2.cell? ⟨g, 0, none⟩ = some (.int .i64 b) := L1.out.cell 0
    have K2 := Lib.hid (putRow g g1 [b] _ w2 N1.out.bld (fun n hn => by rw [List.mem_singleton.1 hn]; exact hWb) (by simp) (N1.out.ge hgU) (HTB.out.on (HBU.out.trans N1.out.bel)))
    simp only [intsV, List.map_cons, List.map_nil, List.length_cons, List.length_nil] at K2
    go_wp2_with (fail)
    with_reducible refine K2.out.mono ?_
    intro e w3 hw3
    obtain ⟨he, hw3'⟩ := hw3
    subst he
    have N2 := Lib.hid (N1.out.then (e := .returned (.tuple #[])) (v := .tuple #[]) ⟨rfl, hw3'⟩)
    have L2 := Lib.hid (L1.out.kept hw3'.2.2 hne (by decide))
    clear hw3' K2 y0
    have hpl : (preW b).length ≤ 28 := by
      have := numsW_len [b] (fun n hn => by rw [List.mem_singleton.1 hn]; exact hWb)
      simp [preW] at this ⊢; omega
    have K3 := Lib.hid (writeByte g g1 _ 10 10 rfl w3 N2.out.bld (by simp [preW] at hpl ⊢; omega) (N2.out.ge hgU))
    go_wp2_with (fail)
    with_reducible refine K3.out.mono ?_
    intro e w4 hw4
    obtain ⟨he, hw4'⟩ := hw4
    subst he
    have N3 := Lib.hid (show Now g g1 (preW b) U w4 from N2.out.then (e := .returned (.tuple #[])) (v := .tuple #[]) ⟨rfl, hw4'⟩)
    have L3 := Lib.hid (L2.out.kept hw4'.2.2 hne (by decide))
    clear hw4' K3 L1 L2 N1 N2 HN0
    have y1 : w4.cell? ⟨g, 1, none⟩ = some (.slice a l.length cap) := L3.out.cell 1
    generalize preW b = pre at N3 hpl HA
    go_wp2
    go_loopw [19] (fun i W => SetRel g g1 pre l U i W) (fun i _ => l.length - (intOf i).toNat)
    case atStart => exact ⟨0, by omega, rfl, by simpa [linesW] using N3.out⟩
    case round =>
      obtain ⟨k, hk, rfl, hnow⟩ := hrel
      have HN := Lib.hid hnow
      clear hnow y1
      by_cases hlt : k < l.length
      · have t1 : decide ((k : Int) < (l.length : Int)) = true := by simp; omega
        have hx : l[k]? = some l[k] := List.getElem?_eq_getElem hlt
        have HTW := Lib.hid (HTK.out.below (B := g) (by have := HGW.out; omega) (HBU.out.trans HN.out.bel))
        obtain ⟨bb, off, rfl, hbl, z0, z1, z2, z3, z4, z5, z6, z7, z8, z9, z10⟩ := HTW.out.cells hx
        have HE := Lib.hid (lines_next hlt)
        have hfi := HF.out _ (List.mem_of_getElem? hx)
        clear hx
        have hlen := linesW_len (l.take k) (fun u hu => HF.out u (List.mem_of_mem_take hu))
        rw [List.length_take, Nat.min_eq_left hk] at hlen
        generalize l[k] = t at z0 z1 z2 z3 z4 z5 z6 z7 z8 z9 z10 HE hfi
        have hro := hfi.room
        have hll := lineW_len hro
        have hWs : g ≤ wr.heap.size := HN.out.ge hgU
        obtain ⟨p, hp⟩ : ∃ p, p = wr.heap.size := ⟨_, rfl⟩
        have HP := Lib.hid hp
        obtain ⟨Y, hY⟩ : ∃ Y, Y = wr.alloc (.cells #[.string t.name, .int .i64 t.T, .int .i64 t.D, .int .i64 t.C, .int .i64 t.A, .int .i64 t.Seg, .int .i64 t.Cost, .int .i64 t.M, .int .i64 t.K, .int .i64 t.Mode, .int .i64 t.Prio] 26) := ⟨_, rfl⟩
        have HY := Lib.hid hY
        have hbY : Below wr.heap.size wr Y := by rw [hY]; exact below_new _ _
        have HLY := Lib.hid (show Lies Y p 26 #[.string t.name, .int .i64 t.T, .int .i64 t.D, .int .i64 t.C, .int .i64 t.A, .int .i64 t.Seg, .int .i64 t.Cost, .int .i64 t.M, .int .i64 t.K, .int .i64 t.Mode, .int .i64 t.Prio] by rw [hY, hp]; exact Lies.made _ _ _)
        have HNY := Lib.hid (show Now g g1 (pre ++ linesW (l.take k)) U Y from ⟨HN.out.bld.on hbY, HN.out.bel.trans (hbY.mono hWs), HN.out.kept.trans (kept_of hbY)⟩)
        have K5 := Lib.hid (putTask g g1 (pre ++ linesW (l.take k)) t Y HNY.out.bld hro (by simp; omega) (HNY.out.ge hgU) (HTB.out.on (HBU.out.trans HNY.out.bel)))
        have u0 : Y.cell? ⟨p, 0, none⟩ = some (.string t.name) := HLY.out.cell 0
        have u1 : Y.cell? ⟨p, 1, none⟩ = some (.int .i64 t.T) := HLY.out.cell 1
        have u2 : Y.cell? ⟨p, 2, none⟩ = some (.int .i64 t.D) := HLY.out.cell 2
        have u3 : Y.cell? ⟨p, 3, none⟩ = some (.int .i64 t.C) := HLY.out.cell 3
        have u4 : Y.cell? ⟨p, 4, none⟩ = some (.int .i64 t.A) := HLY.out.cell 4
        have u5 : Y.cell? ⟨p, 5, none⟩ = some (.int .i64 t.Seg) := HLY.out.cell 5
        have u6 : Y.cell? ⟨p, 6, none⟩ = some (.int .i64 t.Cost) := HLY.out.cell 6
        have u7 : Y.cell? ⟨p, 7, none⟩ = some (.int .i64 t.M) := HLY.out.cell 7
        have u8 : Y.cell? ⟨p, 8, none⟩ = some (.int .i64 t.K) := HLY.out.cell 8
        have u9 : Y.cell? ⟨p, 9, none⟩ = some (.int .i64 t.Mode) := HLY.out.cell 9
        have u10 : Y.cell? ⟨p, 10, none⟩ = some (.int .i64 t.Prio) := HLY.out.cell 10
        have HK6 := Lib.hid (fun (w5 : World) (h5 : Now g g1 (pre ++ linesW (l.take k) ++ lineW t) U w5) => writeByte g g1 (pre ++ linesW (l.take k) ++ lineW t) 10 10 rfl w5 h5.bld (by simp; omega) (h5.ge hgU))
        simp only [aggK] at K5
        have q1 : (0 : Int) ≤ (k : Int) := by omega
        have q2 : (k : Int) < (l.length : Int) := by omega
        clear hp hY hbY HLY hro hll hlen hfi
        go_upto_region 10 with fail
        try rw [← HY.out]
        try rw [← HP.out]
        go_wp2_with (fail)
        with_reducible refine K5.out.mono ?_
        intro e w5 hw5
        obtain ⟨he, hw5'⟩ := hw5
        subst he
        have N5 := Lib.hid (HNY.out.then (e := .returned (.tuple #[])) (v := .tuple #[]) ⟨rfl, hw5'⟩)
        have K6 := Lib.hid (HK6.out w5 N5.out)
        clear hw5' K5 HK6 u0 u1 u2 u3 u4 u5 u6 u7 u8 u9 u10 z0 z1 z2 z3 z4 z5 z6 z7 z8 z9 z10
        go_wp2_with (fail)
        with_reducible refine K6.out.mono ?_
        intro e w6 hw6
        obtain ⟨he, hw6'⟩ := hw6
        subst he
        have N6 := Lib.hid (show Now g g1 (pre ++ linesW (l.take (k + 1))) U w6 by
          have := N5.out.then (e := .returned (.tuple #[])) (v := .tuple #[]) ⟨rfl, hw6'⟩
          rw [HE.out]
          simpa [List.append_assoc] using this)
        clear hw6' K6
        go_wp2
        go_roundw
        case rel => exact ⟨k + 1, by omega, by go_num, N6.out⟩
        case measure => simp [intOf]; omega
      · have t1 : decide ((k : Int) < (l.length : Int)) = false := by simp; omega
        have t1' : decide (k < l.length) = false := by simp; omega
        have HNW := Lib.hid (show Now g g1 (pre ++ linesW l) U wr by
          have := HN.out
          rw [List.take_of_length_le (by omega)] at this; exact this)
        have K7 := Lib.hid (string_ g g1 (pre ++ linesW l) wr HNW.out.bld (HNW.out.ge hgU))
        go_wp2_with (fail)
        with_reducible refine K7.out.mono ?_
        rintro e w7 ⟨rfl, h7, hb7, hk7⟩
        have HB7 := Lib.hid ((HBU.out.trans HNW.out.bel).trans hb7)
        clear h7 hb7 hk7
        go_wp2
        go_ret2
        refine ⟨by rw [HA.out]; rfl, ?_⟩
        have := HB7.out
        rw [HG.out] at this
        exact this
end Go.Proofs.YtbijgmaeechmoaaDoor
