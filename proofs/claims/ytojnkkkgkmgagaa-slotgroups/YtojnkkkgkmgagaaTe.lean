/- A slot is reserved, or refused: Reserve. -/
import Derived.Test.YtojnkkkgkmgagaaTd
namespace Go.Proofs.Ytojnkkkgkmgagaa
open Go.RowKit

theorem flat_put (l : List Ky) (d : Ky) : (flatQ l).take (posK d l * 4) ++ [.int .i64 d.1, .int .i64 d.2.1, .int .i64 d.2.2.1, .int .i64 d.2.2.2] ++ (flatQ l).drop (posK d l * 4) = flatQ (putK l d) := by
  unfold putK
  rw [flatQ_append, flatQ_take, flatQ, flatQ_drop]
  simp [cellsQ]
/-- The place at the latest. -/
def lat (m : List Ky) (gr n en : Int) : Int := latL gr n (en - n) m
section
variable {B p room : Nat} {w : World} {v : Value} {m : List Ky} {id gr n fr en : Int}
set_option maxRecDepth 100000 in
set_option maxHeartbeats 2000000 in
theorem res_arg (hr : ¬ Rgt n fr en) : Calls Try.prog 12 #[.pointer (some ⟨p, 0, none⟩), .int .i64 id, .int .i64 gr, .int .i64 n, .int .i64 fr, .int .i64 en] w (Tells (.tuple #[.int .i64 0, .int .i64 1]) w) := by
  have KR := Lib.hid (right_ n fr en w)
  rw [show rgtB n fr en = false by rw [← Bool.not_eq_true, rgt_iff]; exact hr] at KR
  clear hr
  go_enter Try.func12, Try.ntmps12
  go_wp2_with (first
    | (go_at_call 21
       refine KR.out.mono ?_
       rintro e w' ⟨rfl, rfl⟩)
    )
  go_ret2
  exact ⟨rfl, Below.refl _ _⟩
set_option maxRecDepth 100000 in
set_option maxHeartbeats 2000000 in
theorem res_twice (h : TabV B w p room v m) (hr : Rgt n fr en) (hid : id ∈ m.map idK) : Calls Try.prog 12 #[.pointer (some ⟨p, 0, none⟩), .int .i64 id, .int .i64 gr, .int .i64 n, .int .i64 fr, .int .i64 en] w (Tells (.tuple #[.int .i64 0, .int .i64 7]) w) := by
  have KR := Lib.hid (right_ n fr en w)
  rw [rgt_iff.2 hr] at KR
  have KF := Lib.hid (find_ id h)
  have HID := Lib.hid hid
  have HH := Lib.hid h
  have hpl : p < w.heap.size := h.obj.lt
  have hr2 := h.r2
  have hln := h.len
  clear h hr hid
  go_enter Try.func12, Try.ntmps12
  go_wp2_with (first
    | (go_at_call 21
       refine KR.out.mono ?_
       rintro e w' ⟨rfl, rfl⟩)
    | (go_at_call 19
       refine KF.out.mono ?_
       rintro e w2 ⟨r, rfl, hf, hb⟩
       have HB := Lib.hid hb
       obtain ⟨i, x, hx, hi, rfl⟩ := hf.yes HID.out
       clear hb hf hx hi)
    )
  go_ret2
  exact ⟨rfl, HB.out⟩
set_option maxRecDepth 100000 in
set_option maxHeartbeats 2000000 in
theorem res_full (h : TabV B w p room v m) (hr : Rgt n fr en) (hid : id ∉ m.map idK) (hfull : room ≤ m.length) : Calls Try.prog 12 #[.pointer (some ⟨p, 0, none⟩), .int .i64 id, .int .i64 gr, .int .i64 n, .int .i64 fr, .int .i64 en] w (Tells (.tuple #[.int .i64 0, .int .i64 3]) w) := by
  have KR := Lib.hid (right_ n fr en w)
  rw [rgt_iff.2 hr] at KR
  have KF := Lib.hid (find_ id h)
  have HID := Lib.hid hid
  have HH := Lib.hid h
  have hpl : p < w.heap.size := h.obj.lt
  have hr2 := h.r2
  have hln := h.len
  have t5 : decide ((room : Int) ≤ (m.length : Int)) = true := by simp; omega
  have t5' : decide (room ≤ m.length) = true := by simp; omega
  clear h hr hid hfull
  go_enter Try.func12, Try.ntmps12
  go_wp2_with (first
    | (go_at_call 21
       refine KR.out.mono ?_
       rintro e w' ⟨rfl, rfl⟩)
    | (go_at_call 19
       refine KF.out.mono ?_
       rintro e w2 ⟨r, rfl, hf, hb⟩
       have HB := Lib.hid hb
       obtain rfl := hf.no HID.out
       have hpl2 : p < w2.heap.size := Nat.lt_of_lt_of_le hpl hb.size
       have HV2 := Lib.hid (HH.out.below hb)
       obtain ⟨a, c, hva, hk⟩ := HV2.out.slice
       have HVA := Lib.hid hva
       have HK := Lib.hid hk
       have c0 : w2.cell? ⟨p, 0, none⟩ = some (.int .i64 (room : Int)) := HV2.out.obj.cell 0
       have c1 : w2.cell? ⟨p, 1, none⟩ = some (.slice a m.length c) := hva ▸ HV2.out.obj.cell 1
       clear hb hf hva hk)
    )
  go_quiet (fail)
  go_wp2
  go_ret2
  exact ⟨rfl, below_drewN HB.out _⟩
set_option maxRecDepth 100000 in
set_option maxHeartbeats 2000000 in
theorem res_none (h : TabV B w p room v m) (hr : Rgt n fr en) (hid : id ∉ m.map idK) (hroom : m.length < room) (hl : lat m gr n en < fr) : Calls Try.prog 12 #[.pointer (some ⟨p, 0, none⟩), .int .i64 id, .int .i64 gr, .int .i64 n, .int .i64 fr, .int .i64 en] w (Tells (.tuple #[.int .i64 0, .int .i64 4]) w) := by
  have KR := Lib.hid (right_ n fr en w)
  rw [rgt_iff.2 hr] at KR
  have KF := Lib.hid (find_ id h)
  have HID := Lib.hid hid
  have HH := Lib.hid h
  have hpl : p < w.heap.size := h.obj.lt
  have hr2 := h.r2
  have hln := h.len
  have t5 : decide ((room : Int) ≤ (m.length : Int)) = false := by simp; omega
  have t5' : decide (room ≤ m.length) = false := by simp; omega
  obtain ⟨hr1, hr2', hr3, hr4, hr5⟩ := hr
  clear h hid hroom
  go_enter Try.func12, Try.ntmps12
  go_wp2_with (first
    | (go_at_call 21
       refine KR.out.mono ?_
       rintro e w' ⟨rfl, rfl⟩)
    | (go_at_call 19
       refine KF.out.mono ?_
       rintro e w2 ⟨r, rfl, hf, hb⟩
       have HB := Lib.hid hb
       obtain rfl := hf.no HID.out
       have hpl2 : p < w2.heap.size := Nat.lt_of_lt_of_le hpl hb.size
       have HV2 := Lib.hid (HH.out.below hb)
       obtain ⟨a, c, hva, hk⟩ := HV2.out.slice
       have HVA := Lib.hid hva
       have HK := Lib.hid hk
       have c0 : w2.cell? ⟨p, 0, none⟩ = some (.int .i64 (room : Int)) := HV2.out.obj.cell 0
       have c1 : w2.cell? ⟨p, 1, none⟩ = some (.slice a m.length c) := hva ▸ HV2.out.obj.cell 1
       clear hb hf hva hk)
    )
  go_quiet (fail)
  rename_i nq
  have HBX := Lib.hid (below_drewN HB.out nq)
  have HVX := Lib.hid (HV2.out.drewN nq)
  have HKX := Lib.hid (HK.out.below (Nat.le_refl _) (below_drewN (Below.refl _ w2) nq))
  have d1 : (w2.drewN nq).cell? ⟨p, 1, none⟩ = some (.slice a m.length c) := c1
  have hplX : p < (w2.drewN nq).heap.size := hpl2
  clear c0 c1 hpl2
  generalize w2.drewN nq = X at HBX HVX HKX d1 hplX ⊢
  have KL := Lib.hid (latest (w := X) gr n en d1 hplX HKX.out HH.out.good.rt (by omega) hr1 hr2' (by omega) hr5)
  have HL := Lib.hid (show latL gr n (en - n) m < fr from hl)
  clear hl
  generalize latL gr n (en - n) m = z at KL HL
  have t8 : decide (z < fr) = true := by have := HL.out; simpa using this
  go_wp2_with (first
    | (go_at_call 22
       refine KL.out.mono ?_
       rintro e w3 ⟨rfl, hb⟩
       have HB3 := Lib.hid (HBX.out.trans (hb.mono HBX.out.size))
       have HV3 := Lib.hid (HVX.out.below hb)
       clear hb)
    )
  go_ret2
  exact ⟨rfl, HB3.out⟩
set_option maxRecDepth 100000 in
set_option maxHeartbeats 2000000 in
theorem res_ok (h : TabV B w p room v m) (hr : Rgt n fr en) (hid : id ∉ m.map idK) (hroom : m.length < room) (hl : fr ≤ lat m gr n en) : Calls Try.prog 12 #[.pointer (some ⟨p, 0, none⟩), .int .i64 id, .int .i64 gr, .int .i64 n, .int .i64 fr, .int .i64 en] w (Acts (.tuple #[.int .i64 (lat m gr n en), .int .i64 0]) B p room v.ownBlock (putK m (id, gr, lat m gr n en, lat m gr n en + n)) w) := by
  have KR := Lib.hid (right_ n fr en w)
  rw [rgt_iff.2 hr] at KR
  have KF := Lib.hid (find_ id h)
  have HID := Lib.hid hid
  have HH := Lib.hid h
  have hpl : p < w.heap.size := h.obj.lt
  have hr2 := h.r2
  have hln := h.len
  have HRM := Lib.hid hroom
  have t5 : decide ((room : Int) ≤ (m.length : Int)) = false := by simp; omega
  have t5' : decide (room ≤ m.length) = false := by simp; omega
  obtain ⟨hr1, hr2', hr3, hr4, hr5⟩ := hr
  clear h hid hroom
  unfold lat at hl ⊢
  have HGP := Lib.hid (HH.out.good.put (k := (id, gr, latL gr n (en - n) m, latL gr n (en - n) m + n)) HID.out ⟨by simp only; omega, by simp only; omega, by have := lat_le gr n (en - n) m; simp only; omega⟩ (fun x hx => (lat_free gr n (en - n) hr1 HH.out.good x hx).ap))
  have hz2 := lat_le gr n (en - n) m
  obtain ⟨z, hz⟩ : ∃ z, z = latL gr n (en - n) m := ⟨_, rfl⟩
  rw [← hz] at hl HGP hz2 ⊢
  have HZ := Lib.hid hz
  clear hz
  obtain ⟨d, hd⟩ : ∃ d : Ky, d = (id, gr, z, z + n) := ⟨_, rfl⟩
  rw [← hd] at HGP ⊢
  have HFL := Lib.hid (flat_put m d)
  have hpos := pos_le d m
  have t8 : decide (z < fr) = false := by simp; omega
  go_enter Try.func12, Try.ntmps12
  go_wp2_with (first
    | (go_at_call 21
       refine KR.out.mono ?_
       rintro e w' ⟨rfl, rfl⟩)
    | (go_at_call 19
       refine KF.out.mono ?_
       rintro e w2 ⟨r, rfl, hf, hb⟩
       have HB := Lib.hid hb
       obtain rfl := hf.no HID.out
       have hpl2 : p < w2.heap.size := Nat.lt_of_lt_of_le hpl hb.size
       have HV2 := Lib.hid (HH.out.below hb)
       obtain ⟨a, c, hva, hk⟩ := HV2.out.slice
       have HVA := Lib.hid hva
       have HK := Lib.hid hk
       have c0 : w2.cell? ⟨p, 0, none⟩ = some (.int .i64 (room : Int)) := HV2.out.obj.cell 0
       have c1 : w2.cell? ⟨p, 1, none⟩ = some (.slice a m.length c) := hva ▸ HV2.out.obj.cell 1
       clear hb hf hva hk)
    )
  go_quiet (fail)
  rename_i nq
  have HBX := Lib.hid (below_drewN HB.out nq)
  have HVX := Lib.hid (HV2.out.drewN nq)
  have HKX := Lib.hid (HK.out.below (Nat.le_refl _) (below_drewN (Below.refl _ w2) nq))
  have d1 : (w2.drewN nq).cell? ⟨p, 1, none⟩ = some (.slice a m.length c) := c1
  have hplX : p < (w2.drewN nq).heap.size := hpl2
  clear c0 c1 hpl2
  generalize w2.drewN nq = X at HBX HVX HKX d1 hplX ⊢
  have KL := Lib.hid (latest (w := X) gr n en d1 hplX HKX.out HH.out.good.rt (by omega) hr1 hr2' (by omega) hr5)
  rw [← HZ.out] at KL
  go_wp2_with (first
    | (go_at_call 22
       refine KL.out.mono ?_
       rintro e w3 ⟨rfl, hb⟩
       have HB3 := Lib.hid (HBX.out.trans (hb.mono HBX.out.size))
       have HV3 := Lib.hid (HVX.out.below hb)
       clear hb)
    )
  have HLD := Lib.hid (Lies.made w3 33 #[.int .i64 id, .int .i64 gr, .int .i64 z, .int .i64 (z + n)])
  have HBY := Lib.hid (HB3.out.alloc HB3.out.size (.cells #[.int .i64 id, .int .i64 gr, .int .i64 z, .int .i64 (z + n)] 33))
  have HVY := Lib.hid (HV3.out.below (below_new w3 (.cells #[.int .i64 id, .int .i64 gr, .int .i64 z, .int .i64 (z + n)] 33)))
  generalize w3.alloc (.cells #[.int .i64 id, .int .i64 gr, .int .i64 z, .int .i64 (z + n)] 33) = Y at HLD HBY HVY ⊢
  generalize w3.heap.size = q at HLD ⊢
  have x0 : Y.cell? ⟨q, 0, none⟩ = some (.int .i64 id) := HLD.out.cell 0
  have x1 : Y.cell? ⟨q, 1, none⟩ = some (.int .i64 gr) := HLD.out.cell 1
  have x2 : Y.cell? ⟨q, 2, none⟩ = some (.int .i64 z) := HLD.out.cell 2
  have x3 : Y.cell? ⟨q, 3, none⟩ = some (.int .i64 (z + n)) := HLD.out.cell 3
  have c1 : Y.cell? ⟨p, 1, none⟩ = some v := HVY.out.obj.cell 1
  have hq : q < Y.heap.size := HLD.out.lt
  have hpY : p < Y.heap.size := HVY.out.obj.lt
  have KS : Hid (∀ k, Calls Try.prog 23 #[v, .agg #[.int .i64 id, .int .i64 gr, .int .i64 z, .int .i64 (z + n)], .func (.func 24) #[] #[]] (Y.drewN k) (Looks m (id, gr, z, z + n) (Y.drewN k))) := fun k => by
    obtain ⟨a', c', e', hk'⟩ := (HVY.out.drewN k).slice
    rw [e']
    exact search (d := (id, gr, z, z + n)) HH.out.good.srt hk' (by omega)
  rw [← hd] at KS
  have HD := Lib.hid hd
  clear hd
  generalize hpk : posK d m = k at KS hpos HFL
  have HPK := Lib.hid hpk
  clear hpk d1 hplX
  go_region_held3 (fun w' => w'.cell? ⟨p, 1, none⟩ = some v ∧ w'.cell? ⟨q, 0, none⟩ = some (.int .i64 id) ∧ w'.cell? ⟨q, 1, none⟩ = some (.int .i64 gr) ∧ w'.cell? ⟨q, 2, none⟩ = some (.int .i64 z) ∧ w'.cell? ⟨q, 3, none⟩ = some (.int .i64 (z + n))) (first | go_keep | exact ⟨(hb4.cell (p := ⟨p, 1, none⟩) hpY).trans c1, (hb4.cell (p := ⟨q, 0, none⟩) hq).trans x0, (hb4.cell (p := ⟨q, 1, none⟩) hq).trans x1, (hb4.cell (p := ⟨q, 2, none⟩) hq).trans x2, (hb4.cell (p := ⟨q, 3, none⟩) hq).trans x3⟩)
    ((go_at_call 23; refine (KS.out 1).mono ?_; rintro e w4 ⟨fd, hfe, hb4⟩; rw [HPK.out] at hfe; subst hfe))
  have HB4 := Lib.hid (show Below Y.heap.size Y w4 from (below_drewN (Below.refl _ _) 1).trans hb4)
  clear hb4
  have HW4 := Lib.hid (HBY.out.trans (HB4.out.mono HBY.out.size))
  have HV4 := Lib.hid (HVY.out.below HB4.out)
  have HD4 := Lib.hid (HLD.out.below HB4.out hq)
  have hs4 : q < w4.heap.size := HD4.out.lt
  have hp4 : p < w4.heap.size := Nat.lt_of_lt_of_le hpY HB4.out.size
  clear x0 x1 x2 x3 c1 hq hpY
  have y0 : w4.cell? ⟨q, 0, none⟩ = some (.int .i64 id) := HD4.out.cell 0
  have y1 : w4.cell? ⟨q, 1, none⟩ = some (.int .i64 gr) := HD4.out.cell 1
  have y2 : w4.cell? ⟨q, 2, none⟩ = some (.int .i64 z) := HD4.out.cell 2
  have y3 : w4.cell? ⟨q, 3, none⟩ = some (.int .i64 (z + n)) := HD4.out.cell 3
  have y4 : w4.cell? ⟨p, 1, none⟩ = some v := HV4.out.obj.cell 1
  have HVA2 := Lib.hid (HV4.out.below (w' := w4.drew.alloc (.cells #[.int .i64 id, .int .i64 gr, .int .i64 z, .int .i64 (z + n)] 33)) ((below_drewN (Below.refl _ w4) 1).alloc (Nat.le_refl _) _))
  have HNB := Lib.hid (show v.ownBlock ≠ some w4.heap.size from fun e => by
    have := HV4.out.lt (.inr e)
    omega)
  have KI := Lib.hid (insert (B := B) (i := k) (v := v) (x := .int .i64 id) (y := .int .i64 gr) (z := .int .i64 z) (u := .int .i64 (z + n)) (vb := w4.heap.size) (w := w4.drew.alloc (.cells #[.int .i64 id, .int .i64 gr, .int .i64 z, .int .i64 (z + n)] 33)) (n := m.length) (cs := flatQ m) HVA2.out.base (by omega) hpos HVA2.out.own (Lies.made w4.drew 33 _) HNB.out (one_flatQ _) (fun u hu => by
    simp only [List.mem_cons, List.not_mem_nil, or_false] at hu
    rcases hu with rfl | rfl | rfl | rfl <;> rfl))
  rw [HD.out] at HFL
  simp only at HFL
  rw [HFL.out] at KI
  go_wp2_with (fail)
  go_region_law (go_simp; go_at_call 25; (refine (KI.out).mono ?_); rintro e w5 ⟨g5, c5, rfl, hown, ht, hat⟩; have hL5 := HVA2.out.obj.turns ht HVA2.out.ne; have f1 : w5.cell? ⟨p, 1, none⟩ = some v := hL5.cell 1; have f0 : w5.frozen? ⟨p, 1, none⟩ = false := hL5.thawed 1; have HT := Lib.hid ht; have HOW := Lib.hid hown; have HAT := Lib.hid hat; clear hown ht hat hL5)
  all_goals
    go_wp2
    go_ret2
    have hmlen : (putK m d).length = m.length + 1 := length_put m d
    have hown := HOW.out
    rw [← HD.out, ← hmlen] at hown
    have hsz := HW4.out.size
    have hu := HH.out.upd (m' := putK m d) (.tuple #[.int .i64 z, .int .i64 0]) ((below_drewN HW4.out 1).alloc hsz _) HT.out (v' := .slice (some ⟨g5, 0, none⟩) (putK m d).length c5) hown (by
      rcases HAT.out with h' | h'
      · exact .inl h'.symm
      · exact .inr ⟨g5, rfl, by simp at h'; omega⟩) HGP.out (by rw [hmlen]; exact HRM.out)
    rw [hmlen] at hu
    exact hu
end
end Go.Proofs.Ytojnkkkgkmgagaa
