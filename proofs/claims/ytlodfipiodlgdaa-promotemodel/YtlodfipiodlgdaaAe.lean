/- An entry is added: its place's row, one longer. -/
import Derived.Test.YtlodfipiodlgdaaAd
import Derived.Deep.RegionHeld3
namespace Go.Proofs.Ytlodfipiodlgdaa
open Go.RowKit

theorem flat_put (l : List Ky) (d : Ky) : (flatQ l).take (posK d l * 2) ++ [.int .i64 d.1, .int .i64 d.2] ++ (flatQ l).drop (posK d l * 2) = flatQ (putK l d) := by
  unfold putK
  rw [flatQ_append, flatQ_take, flatQ, flatQ_drop]
  simp [cellsQ]
section
variable {S : Nat → Prop} {B p room : Nat} {now : Int} {w : World} {m : List Ky}
set_option maxRecDepth 100000 in
set_option maxHeartbeats 2000000 in
theorem add_ok (d : Ky) (h : Whl S B w p room now m) (h1 : now ≤ d.1) (h2 : d.1 ≤ 1099511627776) (hid : idK d ∉ m.map idK) (hf : m.length < room) : Calls Try.prog 16 #[.pointer (some ⟨p, 0, none⟩), aggQ d] w (Acts (.int .i64 0) S B p room now (putK m d) w) := by
  obtain ⟨j, hj, hjd⟩ : ∃ j : Nat, j < 64 ∧ d.1 % 64 = (j : Int) := ⟨(d.1 % 64).toNat, by omega, by omega⟩
  have HPJ := Lib.hid (plc_put hjd h.good.srt)
  have HPO : Hid (∀ i, i < 64 → i ≠ j → plc (putK m d) i = plc m i) := fun i _ hi => plc_put_other (fun e => hi (by omega)) m
  have HGP := Lib.hid (h.good.put hid)
  have HTM : Hid (∀ e ∈ putK m d, now ≤ e.1 ∧ e.1 ≤ 1099511627776) := fun e he => by
    rcases mem_put.1 he with rfl | he
    · exact ⟨h1, h2⟩
    · exact h.times e he
  have HLN : Hid ((putK m d).length ≤ room) := by rw [length_put]; exact Lib.hid (by omega)
  have HFL := Lib.hid (flat_put (plc m j) d)
  have hpl := plc_len m j
  have hr2 := h.r2
  have hpos := pos_le d (plc m j)
  have HH := Lib.hid h
  have HNF := Lib.hid hf
  obtain ⟨V, hVw⟩ := h.body
  have HVw := Lib.hid hVw
  have h0 : 0 ≤ d.1 := by have := h.n0; omega
  have hpw := h.lt
  obtain ⟨d0, d1⟩ := d
  simp only [aggQ]
  simp only at HFL hjd h0 h1 h2
  have HM := Lib.hid (may_yes h1 h2)
  have HV := Lib.hid (h.more (below_new w (.cells #[.int .i64 d0, .int .i64 d1] 60)))
  obtain ⟨V0, hV⟩ := HV.out.body
  have KM := Lib.hid (mayCome (p := p) d0 hV.now_)
  rw [HM.out] at KM
  have KF := Lib.hid (findAt d1 HV.out)
  have HID := Lib.hid hid
  have HLD := Lib.hid (Lies.made w 60 #[.int .i64 d0, .int .i64 d1])
  have HJ := Lib.hid hjd
  clear hV h h1 hid hVw hf hjd
  go_enter Try.func16, Try.ntmps16
  go_wp2_with (fail)
  with_reducible refine KM.out.mono ?_
  rintro e w' ⟨rfl, rfl⟩
  go_wp2_with (fail)
  with_reducible refine KF.out.mono ?_
  rintro e w1 ⟨hb, ho⟩
  have HB := Lib.hid (show Below w.heap.size w w1 from (below_new _ _).trans (hb.mono (by simp)))
  have HW := Lib.hid (HV.out.more hb)
  have HD1 := Lib.hid (HLD.out.below hb HLD.out.lt)
  clear hb
  rcases ho with ⟨j', i, x, hj', hx, hi, rfl⟩ | ⟨hn, rfl⟩
  · exact absurd (List.mem_map.2 ⟨x, (plc_mem.1 (List.mem_of_getElem? hx)).1, hi⟩) HID.out
  · clear hn
    have KL : Hid (∀ n, Calls Try.prog 19 #[.pointer (some ⟨p, 0, none⟩)] (w1.drewN n) (Says (.int .i64 (m.length : Int)) (w1.drewN n))) := fun n => lenOf (HW.out.drewN n)
    have hV1 : Body S B w1 p room now m V := HVw.out.same HH.out.sp (fun k hk => HB.out.block k (HH.out.inS k hk).2)
    have HV1 := Lib.hid hV1
    have c0 := hV1.room_
    have hp1 := HW.out.lt
    have t6 : ((m.length : Int) == (room : Int)) = false := by have := HNF.out; rw [beq_eq_false_iff_ne]; omega
    clear hV1
    go_wp2_with (fail)
    go_quiet ((go_at_call 19; exact Calls.quiet_of_same ((KL.out _).mono fun _ _ h => ⟨h.1, h.2.symm⟩)))
    clear c0 t6
    rename_i nq
    have x0 : (w1.drewN nq).cell? ⟨w.heap.size, 0, none⟩ = some (.int .i64 d0) := HD1.out.cell 0
    have x1 : (w1.drewN nq).cell? ⟨w.heap.size, 1, none⟩ = some (.int .i64 d1) := HD1.out.cell 1
    have c1 : (w1.drewN nq).cell? ⟨p, 2 + j, none⟩ = some (V j) := HV1.out.place hj
    have hg1 : w.heap.size < (w1.drewN nq).heap.size := HD1.out.lt
    have hp2 : p < (w1.drewN nq).heap.size := hp1
    have HVX := Lib.hid (show Body S B (w1.drewN nq) p room now m V from HV1.out.same HH.out.sp (fun _ _ => rfl))
    have HDX := Lib.hid (HD1.out.drewN nq)
    have HBX := Lib.hid (below_drewN HB.out nq)
    generalize w1.drewN nq = w2 at x0 x1 c1 hg1 hp2 HVX HDX HBX ⊢
    go_upto_region 9 with fail
    rw [HJ.out]
    obtain ⟨a, c, hvj, hc, hkeys⟩ := HVX.out.row hj
    have KS : Hid (∀ n, Calls Try.prog 23 #[V j, .agg #[.int .i64 d0, .int .i64 d1], .func (.func 24) #[] #[]] (w2.drewN n) (Looks (plc m j) (d0, d1) (w2.drewN n))) := fun n => by
      rw [hvj]
      exact search (d := (d0, d1)) (plc_good HH.out.good j).srt (hkeys.drewN n) (by have := HNF.out; omega)
    have HSL := Lib.hid hvj
    clear hvj hc hkeys
    have i1 : (0 : Int) ≤ (j : Int) := by omega
    have i2 : (j : Int) < 64 := by omega
    generalize hpk : posK (d0, d1) (plc m j) = k at KS hpos HFL
    have HPK := Lib.hid hpk
    clear hpk
    generalize hV_j : V j = v at KS c1 HSL
    have HVJ := Lib.hid hV_j
    clear hV_j
    go_region_held3 (fun w' => w'.cell? ⟨p, 2 + j, none⟩ = some v ∧ w'.cell? ⟨w.heap.size, 0, none⟩ = some (.int .i64 d0) ∧ w'.cell? ⟨w.heap.size, 1, none⟩ = some (.int .i64 d1)) (first | go_keep | exact ⟨(hb3.cell (p := ⟨p, 2 + j, none⟩) hp2).trans c1, (hb3.cell (p := ⟨w.heap.size, 0, none⟩) hg1).trans x0, (hb3.cell (p := ⟨w.heap.size, 1, none⟩) hg1).trans x1⟩)
      ((go_at_call 23; refine (KS.out 1).mono ?_; rintro e w3 ⟨fd, hfe, hb3⟩; rw [HPK.out] at hfe; subst hfe))
    have HB3 := Lib.hid (show Below w2.heap.size w2 w3 from (below_drewN (Below.refl _ _) 1).trans hb3)
    clear hb3
    have HV3 := Lib.hid (show Body S B w3 p room now m V from HVX.out.same HH.out.sp (fun k hk => HB3.out.block k (Nat.lt_of_lt_of_le (HH.out.inS k hk).2 HBX.out.size)))
    have HD3 := Lib.hid (HDX.out.below HB3.out hg1)
    have HW3 := Lib.hid (HBX.out.trans (HB3.out.mono HBX.out.size))
    have hs3 : w.heap.size < w3.heap.size := HD3.out.lt
    have hp3 : p < w3.heap.size := Nat.lt_of_lt_of_le hp2 HB3.out.size
    clear x0 x1 c1 hg1 hp2
    have y0 : w3.cell? ⟨w.heap.size, 0, none⟩ = some (.int .i64 d0) := HD3.out.cell 0
    have y1 : w3.cell? ⟨w.heap.size, 1, none⟩ = some (.int .i64 d1) := HD3.out.cell 1
    have y2 : w3.cell? ⟨p, 2 + j, none⟩ = some v := by rw [← HVJ.out]; exact HV3.out.place hj
    have HVA := Lib.hid (show Body S B (w3.drew.alloc (.cells #[.int .i64 d0, .int .i64 d1] 60)) p room now m V from HV3.out.same HH.out.sp (fun k hk => Below.heap_alloc w3.drew _ k (Nat.lt_of_lt_of_le (HH.out.inS k hk).2 HW3.out.size)))
    have HPN := Lib.hid (show v.ownBlock ≠ some p from fun e => (HV3.out.inn j p hj (by rw [HVJ.out]; exact e)).2 rfl)
    have HNB := Lib.hid (show v.ownBlock ≠ some w3.heap.size from fun e => by
      have := (own_lt (HV3.out.own j hj) (k := w3.heap.size) (by rw [HVJ.out]; exact e)).2
      omega)
    have KI := Lib.hid (insert (B := B) (i := k) (v := v) (x := .int .i64 d0) (y := .int .i64 d1) (vb := w3.heap.size) (w := w3.drew.alloc (.cells #[.int .i64 d0, .int .i64 d1] 60)) (n := (plc m j).length) (cs := flatQ (plc m j)) (Nat.le_trans HH.out.base (Nat.le_trans HW3.out.size (by simp))) (by have := HNF.out; omega) hpos (by have := HVA.out.own j hj; rw [HVJ.out] at this; exact this) (Lies.made w3.drew 60 _) HNB.out (one_flatQ _) rfl rfl)
    rw [HFL.out] at KI
    go_wp2_with (fail)
    go_region_law (go_simp; go_at_call 25; (refine (KI.out).mono ?_); rintro e w4 ⟨g4, c4, rfl, hown, ht, hat⟩; obtain ⟨u, f1, f0⟩ := HVA.out.after ht HPN.out hj; have HT := Lib.hid ht; have HOW := Lib.hid hown; have HAT := Lib.hid hat; clear hown ht hat)
    all_goals
      go_wp2
      go_ret
      have hu := HH.out.upd (m' := putK m (d0, d1)) HVw.out hj ((below_drewN HW3.out 1).alloc HW3.out.size _) (by rw [HVJ.out]; exact HT.out) (by rw [HPJ.out, length_put]; exact HOW.out) (fun q hq => by
        cases hq
        rcases HAT.out with h' | h'
        · exact .inl (by rw [HVJ.out]; exact h')
        · exact .inr h') HPO.out HLN.out HGP.out HTM.out
      exact ⟨rfl, hu⟩
end
end Go.Proofs.Ytlodfipiodlgdaa
