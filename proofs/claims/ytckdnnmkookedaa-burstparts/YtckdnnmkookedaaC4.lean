/- The walk of BurstParts. -/
import Derived.Test.YtckdnnmkookedaaC2
import Derived.Test.YtckdnnmkookedaaBp
import Derived.Deep.RegionHeld3
namespace Go.Proofs.Ytckdnnmkookedaa
open Go.RowKit

def PartRel (b : Int) (l : List Int) (w3 : World) (k i : Value) (W : World) : Prop :=
  ∃ (j q m : Nat), j ≤ l.length ∧ i = .int .i64 (j : Int) ∧ k = .int .i64 (q : Int) ∧ q = (startsF b (l.take j)).length ∧ W = w3.drewN m
set_option maxRecDepth 100000 in
set_option maxHeartbeats 8000000 in
theorem parts {A : Option Addr} {c n : Nat} {l : List Int} (b : Int) (w : World) (h : Ints w A c l) (hn : l.length = n) :
    Calls Try.prog 7 #[.slice A n c, .int .i64 b] w (Woke w) := by
  have KA := Lib.hid (fun W => awake W)
  by_cases hl : n ≤ 300
  · have t1 : decide ((300 : Int) < (n : Int)) = false := by simp; omega
    have t1' : decide (300 < n) = false := by simp; omega
    have HI := Lib.hid h
    clear h
    go_enter Try.func7, Try.ntmps7
    go_wp2_with (fail)
    with_reducible refine (KA.out _).mono ?_
    rintro e w1 ⟨rfl, hb1⟩
    have HB1 := Lib.hid hb1
    have HI1 := Lib.hid (HI.out.tells hb1)
    have KR := Lib.hid (right HI1.out hn (by omega))
    clear hb1
    go_wp2_with (fail)
    with_reducible refine KR.out.mono ?_
    rintro e w2 ⟨r, rfl, hr, m, rfl⟩
    clear KR
    obtain ⟨X, hX⟩ : ∃ X, X = w1.drewN m := ⟨_, rfl⟩
    have HI2 : Hid (Ints X A c l) := Lib.hid (by rw [hX]; exact HI1.out.drewN m)
    have HB2 : Hid (Below w.heap.size w X) := Lib.hid (by rw [hX]; exact below_drewN HB1.out m)
    cases r
    · go_wp2_with (fail)
      rw [← hX]
      clear hX
      with_reducible refine (KA.out _).mono ?_
      rintro e w9 ⟨rfl, hb9⟩
      have HB9 := Lib.hid (HB2.out.trans (hb9.mono HB2.out.size))
      clear hb9
      go_wp2
      go_ret
      exact ⟨rfl, HB9.out⟩
    · have HG := Lib.hid (hr rfl)
      have HT := Lib.hid HG.out.1
      rw [← hX]
      clear hX hr HI1 HB1
      by_cases hb0 : b < 1
      · have d0 : decide (b < 1) = true := decide_eq_true hb0
        go_wp2_with (fail)
        with_reducible refine (KA.out _).mono ?_
        rintro e w9 ⟨rfl, hb9⟩
        have HB9 := Lib.hid (HB2.out.trans (hb9.mono HB2.out.size))
        clear hb9
        go_wp2
        go_ret
        exact ⟨rfl, HB9.out⟩
      · have d0 : decide (b < 1) = false := decide_eq_false hb0
        by_cases hb1 : 1000 < b
        · have d1 : decide (1000 < b) = true := decide_eq_true hb1
          go_wp2_with (fail)
          with_reducible refine (KA.out _).mono ?_
          rintro e w9 ⟨rfl, hb9⟩
          have HB9 := Lib.hid (HB2.out.trans (hb9.mono HB2.out.size))
          clear hb9
          go_wp2
          go_ret
          exact ⟨rfl, HB9.out⟩
        · have d1 : decide (1000 < b) = false := decide_eq_false hb1
          clear KA
          have KS := Lib.hid (starts b HI2.out hn (by omega) HT.out (by omega) (by omega))
          have HS : Hid (∀ x ∈ startsF b l, 0 ≤ x ∧ x ≤ 1099511627776) := Lib.hid (fun x hx => HT.out x (starts_sub hx))
          have HO : Hid (∀ i x, l[i]? = some x → opensB b (lastO none (startsF b (l.take i))) x = true → (startsF b l)[(startsF b (l.take i)).length]? = some x) := Lib.hid (fun i x h1 h2 => parts_opens h1 h2)
          have HC : Hid (∀ i x, l[i]? = some x → opensB b (lastO none (startsF b (l.take i))) x = false → ∀ z, (startsF b l)[(startsF b (l.take i)).length]? = some z → x < z) := Lib.hid (fun i x h1 h2 => parts_shut HG.out h1 h2)
          have HL : Hid (∀ i, 0 < (startsF b (l.take i)).length → lastO none (startsF b (l.take i)) = (startsF b l)[(startsF b (l.take i)).length - 1]?) := Lib.hid (fun i h => parts_last h)
          have HE : Hid (startsF b (l.take n) = startsF b l) := Lib.hid (by rw [List.take_of_length_le (by omega)])
          have HK : Hid (∀ i, (startsF b (l.take i)).length ≤ (startsF b l).length) := Lib.hid (fun i => parts_len b l i)
          have hsl : (startsF b l).length ≤ 300 := by have := starts_len b l; omega
          generalize startsF b l = S at *
          go_wp2_with (fail)
          with_reducible refine KS.out.mono ?_
          rintro e w3 ⟨v3, rfl, ho, hb3⟩
          obtain ⟨_, A3, c3, rfl, hI3⟩ := own_ints ho
          have HI3 := Lib.hid hI3
          have HI4 := Lib.hid (HI2.out.tells hb3)
          have HB3 := Lib.hid (HB2.out.trans (hb3.mono HB2.out.size))
          clear ho hI3 hb3 KS
          go_wp2
          go_loopw [6, 7] (fun k i W => PartRel b l w3 k i W) (fun _ i _ => n - (intOf i).toNat)
          case atStart => exact ⟨0, 0, 0, by omega, rfl, rfl, rfl, rfl⟩
          case round =>
            obtain ⟨i, k, m3, hi, rfl, rfl, hk, rfl⟩ := hrel
            have HKE := Lib.hid hk
            have hkS : k ≤ S.length := by rw [hk]; exact HK.out i
            clear hk
            by_cases hlt : i < n
            · have t2 : decide ((i : Int) < (n : Int)) = true := by simp; omega
              have hx : l[i]? = some (l[i]'(by omega)) := List.getElem?_eq_getElem (by omega)
              obtain ⟨x0, x1⟩ := HT.out _ (List.mem_of_getElem? hx)
              obtain ⟨b4, off, rfl, hb4, hcell⟩ := HI4.out.at_ hx
              have ck := hcell w3 (Below.refl _ _)
              have HN := Lib.hid (starts_next (b := b) hx)
              have HO1 := Lib.hid (HO.out i _ hx)
              have HC1 := Lib.hid (HC.out i _ hx)
              have HL1 := Lib.hid (HL.out i)
              rw [← HKE.out] at HO1 HC1 HL1
              clear hx hcell
              generalize l[i]'_ = x at *
              cases hop : opensB b (lastO none (startsF b (l.take i))) x
              · -- it is in the last burst
                have hk0 : 0 < k := by
                  rcases Nat.eq_zero_or_pos k with h0 | h0
                  · exfalso
                    have h00 : startsF b (l.take i) = [] := List.eq_nil_of_length_eq_zero (by rw [← HKE.out]; exact h0)
                    rw [h00] at hop
                    cases hop
                  · exact h0
                have hy : S[k - 1]? = some (S[k - 1]'(by omega)) := List.getElem?_eq_getElem (by omega)
                obtain ⟨y0, y1⟩ := HS.out _ (List.mem_of_getElem? hy)
                obtain ⟨b5, off5, rfl, hb5, hcy⟩ := HI3.out.at_ hy
                have cy := hcy w3 (Below.refl _ _)
                have HLy := Lib.hid (HL1.out hk0)
                rw [hy] at HLy
                clear hy hcy
                generalize S[k - 1]'_ = y at *
                have hlt2 : ¬ b ≤ x - y := by
                  rw [HLy.out] at hop
                  simpa [opensB] using hop
                have d2 : decide (b ≤ x - y) = false := decide_eq_false hlt2
                have d3 : ((k : Int) == 0) = false := beq_eq_false_iff_ne.2 (by omega)
                have HN2 : Hid (k = (startsF b (l.take (i + 1))).length) := Lib.hid (by rw [HN.out, if_neg (by rw [hop]; simp), List.append_nil]; exact HKE.out)
                have HZ := Lib.hid (HC1.out hop)
                clear hop HO1 HC1 HL1 HLy HN
                by_cases hkl : k < S.length
                · have t3 : decide ((k : Int) < (S.length : Int)) = true := by simp; omega
                  have hz : S[k]? = some (S[k]'hkl) := List.getElem?_eq_getElem (by omega)
                  obtain ⟨b6, off6, e6, _, hcz⟩ := HI3.out.at_ hz
                  cases e6
                  have cz := hcz w3 (Below.refl _ _)
                  have hxz := HZ.out _ hz
                  clear hz hcz HZ
                  generalize S[k]'_ = z at *
                  have d4 : (z == x) = false := beq_eq_false_iff_ne.2 (by omega)
                  go_wp2
                  go_quiet (fail)
                  go_wp2
                  go_quiet (fail)
                  go_wp2
                  go_roundw
                  case rel => exact ⟨i + 1, k, _, by omega, by go_num, rfl, HN2.out, rfl⟩
                  case measure => simp [intOf]; omega
                · have t3 : decide ((k : Int) < (S.length : Int)) = false := by simp; omega
                  have t3' : decide (k < S.length) = false := by simp; omega
                  go_wp2
                  go_quiet (fail)
                  go_wp2
                  go_quiet (fail)
                  go_wp2
                  go_roundw
                  case rel => exact ⟨i + 1, k, _, by omega, by go_num, rfl, HN2.out, rfl⟩
                  case measure => simp [intOf]; omega
              · -- it begins one
                have hz := HO1.out hop
                have hkl : k < S.length := (List.getElem?_eq_some_iff.1 hz).1
                have t3 : decide ((k : Int) < (S.length : Int)) = true := by simp; omega
                obtain ⟨b6, off6, rfl, hb6, hcz⟩ := HI3.out.at_ hz
                have cz := hcz w3 (Below.refl _ _)
                have d4 : (x == x) = true := by simp
                have HN2 : Hid (k + 1 = (startsF b (l.take (i + 1))).length) := Lib.hid (by rw [HN.out, if_pos hop, List.length_append, ← HKE.out]; rfl)
                clear hz hcz HO1 HC1 HN
                by_cases hk0 : 0 < k
                · have d5 : decide (0 < (k : Int)) = true := by simp; omega
                  have hy : S[k - 1]? = some (S[k - 1]'(by omega)) := List.getElem?_eq_getElem (by omega)
                  obtain ⟨y0, y1⟩ := HS.out _ (List.mem_of_getElem? hy)
                  obtain ⟨b5, off5, e5, _, hcy⟩ := HI3.out.at_ hy
                  cases e5
                  have cy := hcy w3 (Below.refl _ _)
                  have HLy := Lib.hid (HL1.out hk0)
                  rw [hy] at HLy
                  clear hy hcy
                  generalize S[k - 1]'_ = y at *
                  have hle : b ≤ x - y := by
                    rw [HLy.out] at hop
                    simpa [opensB] using hop
                  have d2 : decide (x - y < b) = false := decide_eq_false (by omega)
                  clear hop HL1 HLy
                  go_wp2
                  go_quiet (fail)
                  go_wp2
                  go_quiet (fail)
                  go_wp2
                  go_roundw
                  case rel => exact ⟨i + 1, k + 1, _, by omega, by go_num, by go_num, HN2.out, rfl⟩
                  case measure => simp [intOf]; omega
                · have d5 : decide (0 < (k : Int)) = false := by simp; omega
                  clear hop HL1
                  go_wp2
                  go_quiet (fail)
                  go_wp2
                  go_quiet (fail)
                  go_wp2
                  go_roundw
                  case rel => exact ⟨i + 1, k + 1, _, by omega, by go_num, by go_num, HN2.out, rfl⟩
                  case measure => simp [intOf]; omega
            · have t2 : decide ((i : Int) < (n : Int)) = false := by simp; omega
              have t2' : decide (i < n) = false := by simp; omega
              obtain rfl : i = n := by omega
              have HKS : Hid (k = S.length) := Lib.hid (by rw [HKE.out, HE.out])
              have d6 : ((k : Int) == (S.length : Int)) = true := by rw [HKS.out]; simp
              have d6' : (k == S.length) = true := by rw [HKS.out]; simp
              clear hkS
              by_cases hn0 : i = 0
              · have d7 : ((i : Int) == 0) = true := by simp; omega
                go_wp2
                go_quiet (fail)
                go_wp2
                go_ret
                exact ⟨rfl, below_drewN (below_drewN HB3.out _) _⟩
              · have d7 : ((i : Int) == 0) = false := beq_eq_false_iff_ne.2 (by omega)
                have hx : l[0]? = some (l[0]'(by omega)) := List.getElem?_eq_getElem (by omega)
                have hy : l[i - 1]? = some (l[i - 1]'(by omega)) := List.getElem?_eq_getElem (by omega)
                obtain ⟨x0, x1⟩ := HT.out _ (List.mem_of_getElem? hx)
                obtain ⟨y0, y1⟩ := HT.out _ (List.mem_of_getElem? hy)
                obtain ⟨b4, off, rfl, hb4, hcx⟩ := HI4.out.at_ hx
                obtain ⟨b5, off5, e5, _, hcy⟩ := HI4.out.at_ hy
                cases e5
                have cx := hcx w3 (Below.refl _ _)
                have cy := hcy w3 (Below.refl _ _)
                have HOne := Lib.hid (fun h => one_burst (b := 1000) HG.out hx (by rw [hn]; exact hy) h)
                clear hx hy hcx hcy
                generalize l[0]'_ = x at *
                generalize l[i - 1]'_ = y at *
                rw [Nat.add_zero] at cx
                have hpos : 0 < i := by omega
                by_cases hfar : 1000 ≤ y - x
                · have d8 : decide (1000 ≤ y - x) = true := decide_eq_true hfar
                  go_wp2
                  go_quiet (fail)
                  go_wp2
                  go_ret
                  exact ⟨rfl, below_drewN (below_drewN HB3.out _) _⟩
                · have d8 : decide (1000 ≤ y - x) = false := decide_eq_false hfar
                  have hone := HOne.out (by omega)
                  obtain ⟨Y, hY⟩ : ∃ Y, Y = (w3.drewN m3).drew := ⟨_, rfl⟩
                  have KS2 : Hid (Calls Try.prog 14 #[.slice (some ⟨b4, off, none⟩) i c, .int .i64 1000] Y (NewInts (startsF 1000 l) Y)) := Lib.hid (by rw [hY]; exact starts 1000 ((HI4.out.drewN m3).drewN 1) hn (by omega) HT.out (by omega) (by omega))
                  have HU0 : Hid (Y.cell? ⟨b4, off, none⟩ = some (.int .i64 x) ∧ Y.cell? ⟨b4, off + (i - 1), none⟩ = some (.int .i64 y)) := Lib.hid (by rw [hY]; exact ⟨cx, cy⟩)
                  have HYW : Hid (Below w.heap.size w Y) := Lib.hid (by rw [hY]; exact below_drewN (below_drewN HB3.out m3) 1)
                  have HYB : Hid (b4 < Y.heap.size) := Lib.hid (by rw [hY]; exact hb4)
                  have HYE := Lib.hid hY
                  clear hY HOne HKE HE HK HO HC HL HS HI3 HI HI2
                  generalize startsF 1000 l = S2 at *
                  obtain ⟨p, hp⟩ : ∃ p : Nat, p = i - 1 := ⟨_, rfl⟩
                  rw [← hp] at HU0
                  clear cx cy
                  have hpw : IntKind.i64.wrap ((i : Int) - 1) = (p : Int) := by rw [IntWalk.i64_in _ ⟨by omega, by omega⟩]; omega
                  have hp0 : (0 : Int) ≤ (p : Int) := by omega
                  have hp1 : (p : Int) < (i : Int) := by omega
                  have hp2 : (0 : Int) < (i : Int) := by omega
                  have hp3 : p < i := by omega
                  have hyx : IntKind.i64.wrap (y - x) = y - x := by rw [IntWalk.i64_in _ ⟨by omega, by omega⟩]
                  clear hp
                  go_wp2
                  refine wp_region_held_drew (S := fun wS => wS.cell? ⟨b4, off, none⟩ = some (.int .i64 x) ∧ wS.cell? ⟨b4, off + p, none⟩ = some (.int .i64 y)) (by kernel_rfl) (by rw [← HYE.out]; exact HU0.out) (fun hHeld => ?_)
                  rw [← HYE.out] at hHeld ⊢
                  refine wpAnyH_take (i := 0) (oi := ⟨some 87, .move (.tmp 6), _, _, _, none⟩) (v := ?_) rfl (by kernel_rfl) (by kernel_rfl) (by kernel_rfl) (fun _ _ _ h => h) (Or.inl ⟨by rfl, ?_⟩) hHeld ?_
                  rotate_left
                  · intro wS hSw
                    (try dsimp only at hSw)
                    go_simp
                    (try with_reducible rfl)
                  (try simp only [Act.put, List.setIfInBounds_toArray, List.set_cons_zero, List.set_cons_succ])
                  refine wpAnyH_take (i := 1) (oi := ⟨some 88, .move (.tmp 5), _, _, _, none⟩) (v := ?_) rfl (by kernel_rfl) (by kernel_rfl) (by kernel_rfl) (fun _ _ _ h => h) (Or.inl ⟨by rfl, ?_⟩) hHeld ?_
                  rotate_left
                  · intro wS hSw
                    (try dsimp only at hSw)
                    go_simp
                    (try with_reducible rfl)
                  (try simp only [Act.put, List.setIfInBounds_toArray, List.set_cons_zero, List.set_cons_succ])
                  refine wpAnyH_take (i := 2) (oi := ⟨some 89, .call { callee := .builtin .len, args := #[.tmp 88], argTypes := #[22] }, _, _, _, none⟩) (v := ?_) rfl (by kernel_rfl) (by kernel_rfl) (by kernel_rfl) (fun _ _ _ h => h) (Or.inl ⟨by rfl, ?_⟩) hHeld ?_
                  rotate_left
                  · intro wS hSw
                    (try dsimp only at hSw)
                    go_simp
                    (try with_reducible rfl)
                  (try simp only [Act.put, List.setIfInBounds_toArray, List.set_cons_zero, List.set_cons_succ])
                  refine wpAnyH_take (i := 3) (oi := ⟨some 90, .binOp .eql 3 (.tmp 87) (.tmp 89) 3, _, _, _, none⟩) (v := ?_) rfl (by kernel_rfl) (by kernel_rfl) (by kernel_rfl) (fun _ _ _ h => h) (Or.inl ⟨by rfl, ?_⟩) hHeld ?_
                  rotate_left
                  · intro wS hSw
                    (try dsimp only at hSw)
                    go_simp
                    (try with_reducible rfl)
                  (try simp only [Act.put, List.setIfInBounds_toArray, List.set_cons_zero, List.set_cons_succ])
                  refine wpAnyH_take (i := 4) (oi := ⟨some 91, .move (.tmp 90), _, _, _, none⟩) (v := ?_) rfl (by kernel_rfl) (by kernel_rfl) (by kernel_rfl) (fun _ _ _ h => h) (Or.inl ⟨by rfl, ?_⟩) hHeld ?_
                  rotate_left
                  · intro wS hSw
                    (try dsimp only at hSw)
                    go_simp
                    (try with_reducible rfl)
                  (try simp only [Act.put, List.setIfInBounds_toArray, List.set_cons_zero, List.set_cons_succ])
                  refine wpAnyH_take (i := 5) (oi := ⟨some 92, .move (.tmp 0), _, _, _, (some (4, true))⟩) (v := ?_) rfl (by kernel_rfl) (by kernel_rfl) (by kernel_rfl) (fun _ _ _ h => h) (Or.inl ⟨by rfl, ?_⟩) hHeld ?_
                  rotate_left
                  · intro wS hSw
                    (try dsimp only at hSw)
                    go_simp
                    (try with_reducible rfl)
                  (try simp only [Act.put, List.setIfInBounds_toArray, List.set_cons_zero, List.set_cons_succ])
                  refine wpAnyH_take (i := 6) (oi := ⟨some 93, .call { callee := .builtin .len, args := #[.tmp 92], argTypes := #[22] }, _, _, _, (some (4, true))⟩) (v := ?_) rfl (by kernel_rfl) (by kernel_rfl) (by kernel_rfl) (fun _ _ _ h => h) (Or.inl ⟨by rfl, ?_⟩) hHeld ?_
                  rotate_left
                  · intro wS hSw
                    (try dsimp only at hSw)
                    go_simp
                    (try with_reducible rfl)
                  (try simp only [Act.put, List.setIfInBounds_toArray, List.set_cons_zero, List.set_cons_succ])
                  refine wpAnyH_take (i := 7) (oi := ⟨some 94, .binOp .eql 3 (.tmp 93) (.const (.int .i64 0)) 3, _, _, _, (some (4, true))⟩) (v := ?_) rfl (by kernel_rfl) (by kernel_rfl) (by kernel_rfl) (fun _ _ _ h => h) (Or.inl ⟨by rfl, ?_⟩) hHeld ?_
                  rotate_left
                  · intro wS hSw
                    (try dsimp only at hSw)
                    go_simp
                    (try with_reducible rfl)
                  (try simp only [Act.put, List.setIfInBounds_toArray, List.set_cons_zero, List.set_cons_succ])
                  refine wpAnyH_take (i := 8) (oi := ⟨some 95, .move (.tmp 94), _, _, _, (some (4, true))⟩) (v := ?_) rfl (by kernel_rfl) (by kernel_rfl) (by kernel_rfl) (fun _ _ _ h => h) (Or.inl ⟨by rfl, ?_⟩) hHeld ?_
                  rotate_left
                  · intro wS hSw
                    (try dsimp only at hSw)
                    go_simp
                    (try with_reducible rfl)
                  (try simp only [Act.put, List.setIfInBounds_toArray, List.set_cons_zero, List.set_cons_succ])
                  refine wpAnyH_take (i := 9) (oi := ⟨some 96, .move (.tmp 0), _, _, _, (some (8, false))⟩) (v := ?_) rfl (by kernel_rfl) (by kernel_rfl) (by kernel_rfl) (fun _ _ _ h => h) (Or.inl ⟨by rfl, ?_⟩) hHeld ?_
                  rotate_left
                  · intro wS hSw
                    (try dsimp only at hSw)
                    go_simp
                    (try with_reducible rfl)
                  (try simp only [Act.put, List.setIfInBounds_toArray, List.set_cons_zero, List.set_cons_succ])
                  refine wpAnyH_take (i := 10) (oi := ⟨some 97, .move (.tmp 0), _, _, _, (some (8, false))⟩) (v := ?_) rfl (by kernel_rfl) (by kernel_rfl) (by kernel_rfl) (fun _ _ _ h => h) (Or.inl ⟨by rfl, ?_⟩) hHeld ?_
                  rotate_left
                  · intro wS hSw
                    (try dsimp only at hSw)
                    go_simp
                    (try with_reducible rfl)
                  (try simp only [Act.put, List.setIfInBounds_toArray, List.set_cons_zero, List.set_cons_succ])
                  refine wpAnyH_take (i := 11) (oi := ⟨some 98, .call { callee := .builtin .len, args := #[.tmp 97], argTypes := #[22] }, _, _, _, (some (8, false))⟩) (v := ?_) rfl (by kernel_rfl) (by kernel_rfl) (by kernel_rfl) (fun _ _ _ h => h) (Or.inl ⟨by rfl, ?_⟩) hHeld ?_
                  rotate_left
                  · intro wS hSw
                    (try dsimp only at hSw)
                    go_simp
                    (try with_reducible rfl)
                  (try simp only [Act.put, List.setIfInBounds_toArray, List.set_cons_zero, List.set_cons_succ])
                  refine wpAnyH_take (i := 12) (oi := ⟨some 99, .binOp .sub 3 (.tmp 98) (.const (.int .i64 1)) 3, _, _, _, (some (8, false))⟩) (v := ?_) rfl (by kernel_rfl) (by kernel_rfl) (by kernel_rfl) (fun _ _ _ h => h) (Or.inl ⟨by rfl, ?_⟩) hHeld ?_
                  rotate_left
                  · intro wS hSw
                    (try dsimp only at hSw)
                    go_simp
                    (try with_reducible rfl)
                  (try simp only [Act.put, List.setIfInBounds_toArray, List.set_cons_zero, List.set_cons_succ])
                  refine wpAnyH_take (i := 13) (oi := ⟨some 100, .indexAddr 22 (.tmp 96) (.tmp 99), _, _, _, (some (8, false))⟩) (v := ?_) rfl (by kernel_rfl) (by kernel_rfl) (by kernel_rfl) (fun _ _ _ h => h) (Or.inl ⟨by rfl, ?_⟩) hHeld ?_
                  rotate_left
                  · intro wS hSw
                    (try dsimp only at hSw)
                    go_simp
                    (try with_reducible rfl)
                  (try simp only [Act.put, List.setIfInBounds_toArray, List.set_cons_zero, List.set_cons_succ])
                  refine wpAnyH_take (i := 14) (oi := ⟨some 101, .load 3 (.tmp 100), _, _, _, (some (8, false))⟩) (v := ?_) rfl (by kernel_rfl) (by kernel_rfl) (by kernel_rfl) (fun _ _ _ h => h) (Or.inl ⟨by rfl, ?_⟩) hHeld ?_
                  rotate_left
                  · intro wS hSw
                    (try dsimp only at hSw)
                    obtain ⟨z0, z1⟩ := hSw
                    go_simp
                    (try with_reducible rfl)
                  (try simp only [Act.put, List.setIfInBounds_toArray, List.set_cons_zero, List.set_cons_succ])
                  refine wpAnyH_take (i := 15) (oi := ⟨some 102, .move (.tmp 0), _, _, _, (some (8, false))⟩) (v := ?_) rfl (by kernel_rfl) (by kernel_rfl) (by kernel_rfl) (fun _ _ _ h => h) (Or.inl ⟨by rfl, ?_⟩) hHeld ?_
                  rotate_left
                  · intro wS hSw
                    (try dsimp only at hSw)
                    go_simp
                    (try with_reducible rfl)
                  (try simp only [Act.put, List.setIfInBounds_toArray, List.set_cons_zero, List.set_cons_succ])
                  refine wpAnyH_take (i := 16) (oi := ⟨some 103, .indexAddr 22 (.tmp 102) (.const (.int .i64 0)), _, _, _, (some (8, false))⟩) (v := ?_) rfl (by kernel_rfl) (by kernel_rfl) (by kernel_rfl) (fun _ _ _ h => h) (Or.inl ⟨by rfl, ?_⟩) hHeld ?_
                  rotate_left
                  · intro wS hSw
                    (try dsimp only at hSw)
                    go_simp
                    (try with_reducible rfl)
                  (try simp only [Act.put, List.setIfInBounds_toArray, List.set_cons_zero, List.set_cons_succ])
                  refine wpAnyH_take (i := 17) (oi := ⟨some 104, .load 3 (.tmp 103), _, _, _, (some (8, false))⟩) (v := ?_) rfl (by kernel_rfl) (by kernel_rfl) (by kernel_rfl) (fun _ _ _ h => h) (Or.inl ⟨by rfl, ?_⟩) hHeld ?_
                  rotate_left
                  · intro wS hSw
                    (try dsimp only at hSw)
                    obtain ⟨z0, z1⟩ := hSw
                    go_simp
                    (try with_reducible rfl)
                  (try simp only [Act.put, List.setIfInBounds_toArray, List.set_cons_zero, List.set_cons_succ])
                  refine wpAnyH_take (i := 18) (oi := ⟨some 105, .binOp .sub 3 (.tmp 101) (.tmp 104) 3, _, _, _, (some (8, false))⟩) (v := ?_) rfl (by kernel_rfl) (by kernel_rfl) (by kernel_rfl) (fun _ _ _ h => h) (Or.inl ⟨by rfl, ?_⟩) hHeld ?_
                  rotate_left
                  · intro wS hSw
                    (try dsimp only at hSw)
                    go_simp
                    (try with_reducible rfl)
                  (try simp only [Act.put, List.setIfInBounds_toArray, List.set_cons_zero, List.set_cons_succ])
                  refine wpAnyH_take (i := 19) (oi := ⟨some 106, .binOp .geq 3 (.tmp 105) (.const (.int .i64 1000)) 3, _, _, _, (some (8, false))⟩) (v := ?_) rfl (by kernel_rfl) (by kernel_rfl) (by kernel_rfl) (fun _ _ _ h => h) (Or.inl ⟨by rfl, ?_⟩) hHeld ?_
                  rotate_left
                  · intro wS hSw
                    (try dsimp only at hSw)
                    go_simp
                    (try with_reducible rfl)
                  (try simp only [Act.put, List.setIfInBounds_toArray, List.set_cons_zero, List.set_cons_succ])
                  refine wpAnyH_take (i := 20) (oi := ⟨some 107, .pick (.tmp 95) (.const (.bool true)) (.tmp 106), _, _, _, (some (4, true))⟩) (v := ?_) rfl (by kernel_rfl) (by kernel_rfl) (by kernel_rfl) (fun _ _ _ h => h) (Or.inl ⟨by rfl, ?_⟩) hHeld ?_
                  rotate_left
                  · intro wS hSw
                    (try dsimp only at hSw)
                    go_simp
                    (try with_reducible rfl)
                  (try simp only [Act.put, List.setIfInBounds_toArray, List.set_cons_zero, List.set_cons_succ])
                  refine wpAnyH_take (i := 21) (oi := ⟨some 108, .move (.tmp 107), _, _, _, (some (4, true))⟩) (v := ?_) rfl (by kernel_rfl) (by kernel_rfl) (by kernel_rfl) (fun _ _ _ h => h) (Or.inl ⟨by rfl, ?_⟩) hHeld ?_
                  rotate_left
                  · intro wS hSw
                    (try dsimp only at hSw)
                    go_simp
                    (try with_reducible rfl)
                  (try simp only [Act.put, List.setIfInBounds_toArray, List.set_cons_zero, List.set_cons_succ])
                  refine wpAnyH_take (i := 22) (oi := ⟨some 109, .move (.tmp 0), _, _, _, (some (21, false))⟩) (v := ?_) rfl (by kernel_rfl) (by kernel_rfl) (by kernel_rfl) (fun _ _ _ h => h) (Or.inl ⟨by rfl, ?_⟩) hHeld ?_
                  rotate_left
                  · intro wS hSw
                    (try dsimp only at hSw)
                    go_simp
                    (try with_reducible rfl)
                  (try simp only [Act.put, List.setIfInBounds_toArray, List.set_cons_zero, List.set_cons_succ])
                  refine wpAnyH_ready (rs := [23]) (by kernel_rfl) (by simp) ?_
                  refine AllReadyH.cons (o := ⟨some 110, .call { callee := .value (.func 14), args := #[.tmp 109, .const (.int .i64 1000)], argTypes := #[22, 3] }, _, _, _, (some (21, false))⟩) rfl (fun K hK => ?_) ?_
                  rotate_left
                  · exact AllReadyH.nil
                  go_simp
                  go_at_call 14
                  refine KS2.out.mono ?_
                  rintro en u1 ⟨v9, rfl, ho, hb⟩
                  obtain ⟨_, A9, c9, rfl, _⟩ := own_ints ho
                  have HU := Lib.hid (And.intro ((hb.cell (p := ⟨b4, off, none⟩) HYB.out).trans HU0.out.1) ((hb.cell (p := ⟨b4, off + p, none⟩) HYB.out).trans HU0.out.2))
                  have HBU := Lib.hid (HYW.out.trans (hb.mono HYW.out.size))
                  rw [hone]
                  clear ho hb
                  (try go_simp)
                  refine hK.out _ _ HU.out (fun hHeld => ?_)
                  clear hK K
                  (try simp only [Act.put, List.setIfInBounds_toArray, List.set_cons_zero, List.set_cons_succ])
                  refine wpAnyH_take (i := 24) (oi := ⟨some 111, .call { callee := .builtin .len, args := #[.tmp 110], argTypes := #[22] }, _, _, _, (some (21, false))⟩) (v := ?_) rfl (by kernel_rfl) (by kernel_rfl) (by kernel_rfl) (fun _ _ _ h => h) (Or.inl ⟨by rfl, ?_⟩) hHeld ?_
                  rotate_left
                  · intro wS hSw
                    (try dsimp only at hSw)
                    go_simp
                    (try with_reducible rfl)
                  (try simp only [Act.put, List.setIfInBounds_toArray, List.set_cons_zero, List.set_cons_succ])
                  refine wpAnyH_take (i := 25) (oi := ⟨some 112, .binOp .eql 3 (.tmp 111) (.const (.int .i64 1)) 3, _, _, _, (some (21, false))⟩) (v := ?_) rfl (by kernel_rfl) (by kernel_rfl) (by kernel_rfl) (fun _ _ _ h => h) (Or.inl ⟨by rfl, ?_⟩) hHeld ?_
                  rotate_left
                  · intro wS hSw
                    (try dsimp only at hSw)
                    go_simp
                    (try with_reducible rfl)
                  (try simp only [Act.put, List.setIfInBounds_toArray, List.set_cons_zero, List.set_cons_succ])
                  refine wpAnyH_take (i := 26) (oi := ⟨some 113, .pick (.tmp 108) (.const (.bool true)) (.tmp 112), _, _, _, (some (4, true))⟩) (v := ?_) rfl (by kernel_rfl) (by kernel_rfl) (by kernel_rfl) (fun _ _ _ h => h) (Or.inl ⟨by rfl, ?_⟩) hHeld ?_
                  rotate_left
                  · intro wS hSw
                    (try dsimp only at hSw)
                    go_simp
                    (try with_reducible rfl)
                  (try simp only [Act.put, List.setIfInBounds_toArray, List.set_cons_zero, List.set_cons_succ])
                  refine wpAnyH_take (i := 27) (oi := ⟨some 114, .pick (.tmp 91) (.tmp 113) (.const (.bool false)), _, _, _, none⟩) (v := ?_) rfl (by kernel_rfl) (by kernel_rfl) (by kernel_rfl) (fun _ _ _ h => h) (Or.inl ⟨by rfl, ?_⟩) hHeld ?_
                  rotate_left
                  · intro wS hSw
                    (try dsimp only at hSw)
                    go_simp
                    (try with_reducible rfl)
                  (try simp only [Act.put, List.setIfInBounds_toArray, List.set_cons_zero, List.set_cons_succ])
                  refine wpAnyH_take (i := 28) (oi := ⟨some 4, .assign (.tmp 114), _, _, _, none⟩) (v := ?_) rfl (by kernel_rfl) (by kernel_rfl) (by kernel_rfl) (fun _ _ _ h => h) (Or.inl ⟨by rfl, ?_⟩) hHeld ?_
                  rotate_left
                  · intro wS hSw
                    (try dsimp only at hSw)
                    go_simp
                    (try with_reducible rfl)
                  (try simp only [Act.put, List.setIfInBounds_toArray, List.set_cons_zero, List.set_cons_succ])
                  refine wpAnyH_done (by kernel_rfl) ?_ _
                  go_wp2
                  go_ret
                  exact ⟨rfl, HBU.out⟩
  · have t1 : decide ((300 : Int) < (n : Int)) = true := by simp; omega
    have t1' : decide (300 < n) = true := by simp; omega
    clear h
    go_enter Try.func7, Try.ntmps7
    go_wp2_with (fail)
    with_reducible refine (KA.out _).mono ?_
    rintro e w1 ⟨rfl, hb1⟩
    have HB1 := Lib.hid hb1
    clear hb1
    go_wp2_with (fail)
    with_reducible refine (KA.out _).mono ?_
    rintro e w9 ⟨rfl, hb9⟩
    have HB9 := Lib.hid (HB1.out.trans (hb9.mono HB1.out.size))
    clear hb9
    go_wp2
    go_ret
    exact ⟨rfl, HB9.out⟩
end Go.Proofs.Ytckdnnmkookedaa
