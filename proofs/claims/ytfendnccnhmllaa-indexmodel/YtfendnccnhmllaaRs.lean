/- The statement's own way to sort: each laid into its place. -/
import Derived.Test.YtfendnccnhmllaaKeeps
import Derived.Deep.RegionHeld3
import Derived.IntWalk
namespace Go.Proofs.Ytfendnccnhmllaa
open Go.RowKit

/-- A row of the call's own, behind W0: what W0 had is as it was. -/
def Grows (W0 : World) (A : Option Addr) (n c : Nat) (zs : List ByteArray) (W : World) : Prop := Below W0.heap.size W0 W ∧ W.ownsRow W0.heap.size 9 1 (.slice A n c) n (zs.map .string)
section
variable {W0 W W' : World} {A A' : Option Addr} {n m c c' : Nat} {xs zs : List ByteArray} {b : Nat} {x : ByteArray}
theorem Grows.longer (h : Grows W0 A n c xs W) (hl : Longer W0.heap.size W (.slice A n c) m zs A' c' W') : Grows W0 A' m c' zs W' :=
  ⟨hl.below h.1 h.1.size (fun _ hk => (own_lt h.2 hk).1), hl.1⟩
theorem Grows.alloc (h : Grows W0 A n c xs W) (o : Obj) : Grows W0 A n c xs (W.alloc o) := ⟨h.1.alloc h.1.size o, h.2.alloc o⟩
theorem Grows.reads (h : Grows W0 A n c xs W) {B : Option Addr} (hr : Reads W0 B zs) : Reads W B zs := hr.below (Nat.le_refl _) h.1
/-- The empty row. -/
theorem grows_nil (W0 : World) (d : Nat) : Grows W0 (some ⟨W0.heap.size, 0, none⟩) 0 0 [] ((W0.drewN d).alloc (.cells #[] 9)) :=
  ⟨(below_drewN (Below.refl _ _) d).alloc (Nat.le_refl _) _, World.ownsRow_lit (W0.drewN d) #[] 0 (Nat.le_refl _) (by unfold maxLen; omega) rfl⟩
theorem grows_nil' (W0 : World) (d : Nat) (o : Obj) : Grows W0 (some ⟨W0.heap.size + 1, 0, none⟩) 0 0 [] (((W0.drewN d).alloc o).alloc (.cells #[] 9)) := by
  refine ⟨((below_drewN (Below.refl _ _) d).alloc (Nat.le_refl _) _).alloc (by simp) _, ?_⟩
  have := World.ownsRow_lit (base := W0.heap.size) (e := 9) (size := 1) ((W0.drewN d).alloc o) #[] 0 (by simp) (by unfold maxLen; omega) rfl
  simpa using this
theorem reads_one {w : World} (h : Lies w b 9 #[.string x]) : Reads w (some ⟨b, 0, none⟩) [x] := fun _ => ⟨b, 0, rfl, h.lt, fun i u hu => by
  have hi : i = 0 := by have := (List.getElem?_eq_some_iff.1 hu).1; simp at this; omega
  subst hi
  rw [h.cell]
  have : x = u := by simpa using hu
  rw [this]; rfl⟩
theorem lies_b (W0 : World) (x : ByteArray) (d : Nat) : Lies (((W0.drewN d).alloc (.cells #[] 9)).alloc (.cells #[.string x] 9)) (W0.heap.size + 1) 9 #[.string x] := by
  have := Lies.made ((W0.drewN d).alloc (.cells #[] 9)) 9 #[.string x]
  simpa using this
theorem lies_c (W0 : World) (x : ByteArray) (d : Nat) : Lies (((W0.drewN d).alloc (.cells #[.string x] 9)).alloc (.cells #[] 9)) W0.heap.size 9 #[.string x] := (Lies.made (W0.drewN d) 9 #[.string x]).alloc _
theorem own_ne {b b' o n c : Nat} (h : b ≠ b') : (Value.slice (some ⟨b, o, none⟩) n c).ownBlock ≠ some b' := fun e => h (own_at e)
theorem lies_longer {w w' : World} {v : Value} (h : Lies w b 9 #[.string x]) (hl : Longer W0.heap.size w v m zs A' c' w') (hv : v.ownBlock ≠ some b) : Lies w' b 9 #[.string x] := by
  unfold Lies; rw [hl.2.1.block b h.lt (fun e => hv e.symm)]; exact h
end

/-- Texts, in a row of the call's own. -/
def RefSorts (l : List ByteArray) (w : World) (e : Ending) (w' : World) : Prop := ∃ A c, e = .returned (.slice A l.length c) ∧ Reads w' A (srt l) ∧ Below w.heap.size w w'
def OutRel (l : List ByteArray) (w : World) (o i : Value) (W : World) : Prop :=
  ∃ (k c : Nat) (A : Option Addr), k ≤ l.length ∧ o = .slice A k c ∧ i = .int .i64 (k : Int) ∧ W.ownsRow w.heap.size 9 1 (.slice A k c) k ((srt (l.take k)).map .string) ∧ Below w.heap.size w W
def AtRel (z : List ByteArray) (x : ByteArray) (w : World) (j : Value) (W : World) : Prop :=
  ∃ k m : Nat, k ≤ z.length ∧ j = .int .i64 (k : Int) ∧ W = w.drewN m ∧ ∀ i y, i < k → z[i]? = some y → lt y x = true

set_option maxRecDepth 100000 in
set_option maxHeartbeats 4000000 in
theorem ref_sorted (l : List ByteArray) (a : Option Addr) (cap : Nat) {w : World} (hl : l.length ≤ 300) (hr : Reads w a l) : Calls Try.prog 18 #[.slice a l.length cap] w (RefSorts l w) := by
  have HR := Lib.hid hr
  clear hr
  go_enter Try.func18, Try.ntmps18
  go_wp2
  go_loopw [3, 4] (fun o i W => OutRel l w o i W) (fun _ i _ => l.length - (intOf i).toNat)
  case atStart => exact ⟨0, 0, none, by omega, rfl, rfl, World.ownsRow_nil _ _ _ _, Below.refl _ _⟩
  case round =>
    obtain ⟨k, c, A, hk, rfl, rfl, ho, hb⟩ := hrel
    have HO := Lib.hid ho
    have HB := Lib.hid hb
    clear ho hb
    by_cases hlt : k < l.length
    · have t1 : decide ((k : Int) < (l.length : Int)) = true := by simp; omega
      obtain ⟨b2, off, rfl, hbl, hcell⟩ := HR.out (by omega)
      have hx : l[k]? = some l[k] := List.getElem?_eq_getElem hlt
      have cx : wr.cell? ⟨b2, off + k, none⟩ = some (.string l[k]) := (HB.out.cell (p := ⟨b2, off + k, none⟩) hbl).trans (hcell k _ hx)
      have HNX := Lib.hid (show l.take (k + 1) = l.take k ++ [l[k]] by rw [List.take_add_one, hx]; rfl)
      clear hcell hx
      generalize l[k] = x at cx HNX
      obtain ⟨Z, hZ⟩ : ∃ Z, Z = srt (l.take k) := ⟨_, rfl⟩
      have HZL := Lib.hid (show Z.length = k by rw [hZ, length_srt, List.length_take]; omega)
      have HRD : Hid (Reads wr A Z) := by
        obtain ⟨A', c', e1, _, hr⟩ := Reads.own HO.out
        cases e1
        rw [hZ]
        exact hr
      obtain ⟨hkc, hA0⟩ : k ≤ c ∧ (A = none → k = 0 ∧ c = 0) := by
        rcases HO.out.2 with ⟨e1, e2⟩ | ⟨g, cap', cur, e1, _, _, hnc, _⟩
        · cases e1
          exact ⟨Nat.le_refl _, fun _ => ⟨e2, rfl⟩⟩
        · cases e1
          exact ⟨hnc, fun e => by cases e⟩
      have hAf : A = none ∨ ∃ g, A = some ⟨g, 0, none⟩ := by
        rcases HO.out.2 with ⟨e1, _⟩ | ⟨g, cap', cur, e1, _⟩
        · cases e1
          exact .inl rfl
        · cases e1
          exact .inr ⟨g, rfl⟩
      have HINS := Lib.hid (show ins x Z = srt (l.take (k + 1)) by rw [HNX.out, srt_snoc, hZ])
      have hcm : c ≤ 9223372036854775807 := by
        rcases HO.out.2 with ⟨e1, e2⟩ | ⟨g, cap', cur, e1, _, _, _, hcm, _⟩
        · cases e1
          omega
        · cases e1
          unfold maxLen at hcm
          omega
      clear hZ HO HNX
      have hbN : b2 < wr.heap.size := Nat.lt_of_lt_of_le hbl HB.out.size
      have KP : Hid (∀ W : World, Below wr.heap.size wr W → W.cell? ⟨b2, off + k, none⟩ = some (.string x)) := fun W hW => (hW.cell (p := ⟨b2, off + k, none⟩) hbN).trans cx
      go_wp2
      go_loopw [5] (fun j W => AtRel Z x wr j W) (fun j _ => k - (intOf j).toNat)
      case atStart => exact ⟨0, 0, by omega, rfl, rfl, fun i y hi => by omega⟩
      case round =>
        obtain ⟨j, m, hj, rfl, rfl, hall⟩ := hrel
        rw [HZL.out] at hj
        have HA := Lib.hid hall
        clear hall
        by_cases hjk : j < k
        · have t2 : decide ((j : Int) < (k : Int)) = true := by simp; omega
          obtain ⟨b3, o3, rfl, hb3, hc3⟩ := HRD.out (by rw [HZL.out]; omega)
          have hy : Z[j]? = some (Z[j]'(by rw [HZL.out]; exact hjk)) := List.getElem?_eq_getElem _
          have cy := hc3 j _ hy
          have HY := Lib.hid hy
          clear hc3 hy
          generalize Z[j]'(by rw [HZL.out]; exact hjk) = y at cy HY
          cases hly : lt y x with
          | true =>
            have t3 : Op.bytesLess y.toList x.toList = true := hly
            have HA1 : Hid (∀ i z, i < j + 1 → Z[i]? = some z → lt z x = true) := fun i z hi hz => by
              by_cases hij : i = j
              · subst hij
                rw [HY.out] at hz
                cases hz
                exact hly
              · exact HA.out i z (by omega) hz
            clear hly
            go_wp2
            go_quiet (fail)
            go_wp2
            go_roundw
            case rel => exact ⟨j + 1, _, by rw [HZL.out]; omega, by go_num, rfl, HA1.out⟩
            case measure => simp [intOf]; omega
          | false =>
            have t3 : Op.bytesLess y.toList x.toList = false := hly
            have HP := Lib.hid (show pos x Z = j from pos_eq (by rw [HZL.out]; omega) HA.out (fun z hz => by rw [HY.out] at hz; cases hz; exact hly))
            clear hly
            obtain ⟨ZT, hZT⟩ : ∃ ZT, ZT = Z.take j := ⟨_, rfl⟩
            obtain ⟨ZD, hZD⟩ : ∃ ZD, ZD = Z.drop j := ⟨_, rfl⟩
            have HZT := Lib.hid (show ZT.length = j by rw [hZT, List.length_take, HZL.out]; omega)
            have HZD := Lib.hid (show ZD.length = k - j by rw [hZD, List.length_drop, HZL.out])
            have HIN := Lib.hid (show ZT ++ [x] ++ ZD = srt (l.take (k + 1)) by rw [← HINS.out, ins, HP.out, hZT, hZD]; simp)
            have RT : Hid (Reads wr (some ⟨b3, o3, none⟩) ZT) := fun h0 => by
              obtain ⟨b', o', e, hb', hc⟩ := HRD.out (by rw [HZL.out]; omega)
              exact ⟨b', o', e, hb', fun i u hu => by
                rw [hZT, List.getElem?_take] at hu
                split at hu
                · exact hc i u hu
                · cases hu⟩
            have RD : Hid (Reads wr (some ⟨b3, o3 + j, none⟩) ZD) := fun h0 => by
              obtain ⟨b', o', e, hb', hc⟩ := HRD.out (by rw [HZL.out]; omega)
              cases e
              exact ⟨b3, o3 + j, rfl, hb', fun i u hu => by
                rw [hZD, List.getElem?_drop] at hu
                rw [Nat.add_assoc]
                exact hc _ u hu⟩
            clear hZT hZD
            have q1 : ¬ (c = j) := by omega
            have q2 : j ≤ c := by omega
            have q3 : j ≤ k := by omega
            go_wp2
            go_quiet (fail)
            go_wp2
            go_region_held3 (fun w' => w'.cell? ⟨b2, off + k, none⟩ = some (.string x)) (first | go_keep | exact KP.out _ P4.1 | exact KP.out _ P3.1 | exact KP.out _ P2.1)
              (first
                | (refine step_append_any rfl (.tmp 29) (.tmp 32) rfl wr.heap.size 0 j c j _ [] ZT (some ⟨b3, o3, none⟩) (by rfl) (by rfl) (by first | exact (grows_nil wr _).2 | exact ((grows_nil wr _).alloc _).2 | exact (grows_nil' wr _ _).2) HZT.out (by first | exact (grows_nil wr _).reads RT.out | exact ((grows_nil wr _).alloc _).reads RT.out | exact (grows_nil' wr _ _).reads RT.out) (by omega) (by omega) (by first | exact (grows_nil wr _).1.size | exact ((grows_nil wr _).alloc _).1.size | exact (grows_nil' wr _ _).1.size) ?_
                   intro A2 c2 w2 hl2
                   have P2 : Grows wr A2 j c2 ZT w2 := by first | exact (grows_nil wr _).longer hl2 | exact ((grows_nil wr _).alloc _).longer hl2 | exact (grows_nil' wr _ _).longer hl2)
                | (refine step_append_any rfl (.tmp 33) (.tmp 38) rfl wr.heap.size j 1 1 (j + 1) (.slice A2 j c2) ZT [x] _ (by rfl) (by rfl) (by first | exact P2.2 | exact (P2.alloc _).2) rfl (by first | exact reads_one (Lies.made w2 9 #[.string x]) | exact reads_one (lies_longer (W0 := wr) (v := .slice (some ⟨wr.heap.size, 0, none⟩) 0 0) (lies_b wr x _) hl2 (own_ne (by omega))) | exact reads_one (lies_longer (W0 := wr) (v := .slice (some ⟨wr.heap.size + 1, 0, none⟩) 0 0) (lies_c wr x _) hl2 (own_ne (by omega)))) (by omega) (by omega) (by first | exact P2.1.size | exact (P2.alloc _).1.size) ?_
                   intro A3 c3 w3 hl3
                   have P3 : Grows wr A3 (j + 1) c3 (ZT ++ [x]) w3 := by first | exact P2.longer hl3 | exact (P2.alloc _).longer hl3)
                | (refine step_append_any rfl (.tmp 39) (.tmp 42) rfl wr.heap.size (j + 1) (k - j) (c - j) (k + 1) (.slice A3 (j + 1) c3) (ZT ++ [x]) ZD (some ⟨b3, o3 + j, none⟩) (by rfl) (by rfl) P3.2 HZD.out (P3.reads RD.out) (by omega) (by omega) P3.1.size ?_
                   intro A4 c4 w4 hl4
                   have P4 : Grows wr A4 (k + 1) c4 (ZT ++ [x] ++ ZD) w4 := P3.longer hl4))
            all_goals
              rw [HIN.out] at P4
              have P5 := Lib.hid P4
              clear P2 P3 P4 hl2 hl3 hl4
              go_wp2
              go_roundw
              case rel => exact ⟨k + 1, c4, A4, by omega, rfl, by go_num, Keeps.own_lower P5.out.2 HB.out.size, HB.out.trans (P5.out.1.mono HB.out.size)⟩
              case measure => simp [intOf]; omega
        · have t2 : decide ((j : Int) < (k : Int)) = false := by simp; omega
          have t2' : decide (j < k) = false := by simp; omega
          obtain rfl : j = k := by omega
          have HP := Lib.hid (show pos x Z = j from pos_eq (by rw [HZL.out]; omega) HA.out (fun z hz => by
            have := (List.getElem?_eq_some_iff.1 hz).1
            rw [HZL.out] at this
            omega))
          obtain ⟨ZT, hZT⟩ : ∃ ZT, ZT = Z.take j := ⟨_, rfl⟩
          obtain ⟨ZD, hZD⟩ : ∃ ZD, ZD = Z.drop j := ⟨_, rfl⟩
          have HZT := Lib.hid (show ZT.length = j by rw [hZT, List.length_take, HZL.out]; omega)
          have HZD := Lib.hid (show ZD.length = 0 by rw [hZD, List.length_drop, HZL.out]; omega)
          have HIN := Lib.hid (show ZT ++ [x] ++ ZD = srt (l.take (j + 1)) by rw [← HINS.out, ins, HP.out, hZT, hZD]; simp)
          have RT : Hid (Reads wr A ZT) := by rw [hZT, List.take_of_length_le (by rw [HZL.out]; exact Nat.le_refl _)]; exact HRD.out
          have RDany : Hid (∀ B, Reads wr B ZD) := fun B h0 => by rw [HZD.out] at h0; omega
          clear hZT hZD
          rcases hAf with rfl | ⟨g, rfl⟩
          · obtain ⟨rfl, rfl⟩ := hA0 rfl
            have RD := Lib.hid (RDany.out none)
            have cx0 : wr.cell? ⟨b2, off, none⟩ = some (.string x) := cx
            clear cx
            go_wp2
            go_quiet (fail)
            go_wp2
            go_region_held3 (fun w' => w'.cell? ⟨b2, off, none⟩ = some (.string x)) (first | go_keep | exact KP.out _ P4.1 | exact KP.out _ P3.1 | exact KP.out _ P2.1)
              (first
                | (refine step_append_any rfl (.tmp 29) (.tmp 32) rfl wr.heap.size 0 0 0 0 _ [] ZT none (by rfl) (by rfl) (by first | exact (grows_nil wr _).2 | exact ((grows_nil wr _).alloc _).2 | exact (grows_nil' wr _ _).2) HZT.out (by first | exact (grows_nil wr _).reads RT.out | exact ((grows_nil wr _).alloc _).reads RT.out | exact (grows_nil' wr _ _).reads RT.out) (by omega) (by omega) (by first | exact (grows_nil wr _).1.size | exact ((grows_nil wr _).alloc _).1.size | exact (grows_nil' wr _ _).1.size) ?_
                   intro A2 c2 w2 hl2
                   have P2 : Grows wr A2 0 c2 ZT w2 := by first | exact (grows_nil wr _).longer hl2 | exact ((grows_nil wr _).alloc _).longer hl2 | exact (grows_nil' wr _ _).longer hl2)
                | (refine step_append_any rfl (.tmp 33) (.tmp 38) rfl wr.heap.size 0 1 1 (0 + 1) (.slice A2 0 c2) ZT [x] _ (by rfl) (by rfl) (by first | exact P2.2 | exact (P2.alloc _).2) rfl (by first | exact reads_one (Lies.made w2 9 #[.string x]) | exact reads_one (lies_longer (W0 := wr) (v := .slice (some ⟨wr.heap.size, 0, none⟩) 0 0) (lies_b wr x _) hl2 (own_ne (by omega))) | exact reads_one (lies_longer (W0 := wr) (v := .slice (some ⟨wr.heap.size + 1, 0, none⟩) 0 0) (lies_c wr x _) hl2 (own_ne (by omega)))) (by omega) (by omega) (by first | exact P2.1.size | exact (P2.alloc _).1.size) ?_
                   intro A3 c3 w3 hl3
                   have P3 : Grows wr A3 (0 + 1) c3 (ZT ++ [x]) w3 := by first | exact P2.longer hl3 | exact (P2.alloc _).longer hl3)
                | (refine step_append_any rfl (.tmp 39) (.tmp 42) rfl wr.heap.size (0 + 1) 0 0 (0 + 1) (.slice A3 (0 + 1) c3) (ZT ++ [x]) ZD none (by rfl) (by rfl) P3.2 HZD.out (P3.reads RD.out) (by omega) (by omega) P3.1.size ?_
                   intro A4 c4 w4 hl4
                   have P4 : Grows wr A4 (0 + 1) c4 (ZT ++ [x] ++ ZD) w4 := P3.longer hl4))
            all_goals
              rw [HIN.out] at P4
              have P5 := Lib.hid P4
              clear P2 P3 P4 hl2 hl3 hl4
              go_wp2
              go_roundw
              case rel => exact ⟨0 + 1, c4, A4, by omega, rfl, by go_num, Keeps.own_lower P5.out.2 HB.out.size, HB.out.trans (P5.out.1.mono HB.out.size)⟩
              case measure => simp [intOf]; omega
          · by_cases q1 : c = j
            · subst q1
              have RD := Lib.hid (RDany.out (some ⟨g, 0, none⟩))
              go_wp2
              go_quiet (fail)
              go_wp2
              go_region_held3 (fun w' => w'.cell? ⟨b2, off + c, none⟩ = some (.string x)) (first | go_keep | exact KP.out _ P4.1 | exact KP.out _ P3.1 | exact KP.out _ P2.1)
                (first
                  | (refine step_append_any rfl (.tmp 29) (.tmp 32) rfl wr.heap.size 0 c c c _ [] ZT (some ⟨g, 0, none⟩) (by rfl) (by rfl) (by first | exact (grows_nil wr _).2 | exact ((grows_nil wr _).alloc _).2 | exact (grows_nil' wr _ _).2) HZT.out (by first | exact (grows_nil wr _).reads RT.out | exact ((grows_nil wr _).alloc _).reads RT.out | exact (grows_nil' wr _ _).reads RT.out) (by omega) (by omega) (by first | exact (grows_nil wr _).1.size | exact ((grows_nil wr _).alloc _).1.size | exact (grows_nil' wr _ _).1.size) ?_
                     intro A2 c2 w2 hl2
                     have P2 : Grows wr A2 c c2 ZT w2 := by first | exact (grows_nil wr _).longer hl2 | exact ((grows_nil wr _).alloc _).longer hl2 | exact (grows_nil' wr _ _).longer hl2)
                  | (refine step_append_any rfl (.tmp 33) (.tmp 38) rfl wr.heap.size c 1 1 (c + 1) (.slice A2 c c2) ZT [x] _ (by rfl) (by rfl) (by first | exact P2.2 | exact (P2.alloc _).2) rfl (by first | exact reads_one (Lies.made w2 9 #[.string x]) | exact reads_one (lies_longer (W0 := wr) (v := .slice (some ⟨wr.heap.size, 0, none⟩) 0 0) (lies_b wr x _) hl2 (own_ne (by omega))) | exact reads_one (lies_longer (W0 := wr) (v := .slice (some ⟨wr.heap.size + 1, 0, none⟩) 0 0) (lies_c wr x _) hl2 (own_ne (by omega)))) (by omega) (by omega) (by first | exact P2.1.size | exact (P2.alloc _).1.size) ?_
                     intro A3 c3 w3 hl3
                     have P3 : Grows wr A3 (c + 1) c3 (ZT ++ [x]) w3 := by first | exact P2.longer hl3 | exact (P2.alloc _).longer hl3)
                  | (refine step_append_any rfl (.tmp 39) (.tmp 42) rfl wr.heap.size (c + 1) 0 0 (c + 1) (.slice A3 (c + 1) c3) (ZT ++ [x]) ZD (some ⟨g, 0, none⟩) (by rfl) (by rfl) P3.2 HZD.out (P3.reads RD.out) (by omega) (by omega) P3.1.size ?_
                     intro A4 c4 w4 hl4
                     have P4 : Grows wr A4 (c + 1) c4 (ZT ++ [x] ++ ZD) w4 := P3.longer hl4))
              all_goals
                rw [HIN.out] at P4
                have P5 := Lib.hid P4
                clear P2 P3 P4 hl2 hl3 hl4
                go_wp2
                go_roundw
                case rel => exact ⟨c + 1, c4, A4, by omega, rfl, by go_num, Keeps.own_lower P5.out.2 HB.out.size, HB.out.trans (P5.out.1.mono HB.out.size)⟩
                case measure => simp [intOf]; omega
            · have RD := Lib.hid (RDany.out (some ⟨g, j, none⟩))
              have q2 : j ≤ c := by omega
              go_wp2
              go_quiet (fail)
              go_wp2
              go_region_held3 (fun w' => w'.cell? ⟨b2, off + j, none⟩ = some (.string x)) (first | go_keep | exact KP.out _ P4.1 | exact KP.out _ P3.1 | exact KP.out _ P2.1)
                (first
                  | (refine step_append_any rfl (.tmp 29) (.tmp 32) rfl wr.heap.size 0 j c j _ [] ZT (some ⟨g, 0, none⟩) (by rfl) (by rfl) (by first | exact (grows_nil wr _).2 | exact ((grows_nil wr _).alloc _).2 | exact (grows_nil' wr _ _).2) HZT.out (by first | exact (grows_nil wr _).reads RT.out | exact ((grows_nil wr _).alloc _).reads RT.out | exact (grows_nil' wr _ _).reads RT.out) (by omega) (by omega) (by first | exact (grows_nil wr _).1.size | exact ((grows_nil wr _).alloc _).1.size | exact (grows_nil' wr _ _).1.size) ?_
                     intro A2 c2 w2 hl2
                     have P2 : Grows wr A2 j c2 ZT w2 := by first | exact (grows_nil wr _).longer hl2 | exact ((grows_nil wr _).alloc _).longer hl2 | exact (grows_nil' wr _ _).longer hl2)
                  | (refine step_append_any rfl (.tmp 33) (.tmp 38) rfl wr.heap.size j 1 1 (j + 1) (.slice A2 j c2) ZT [x] _ (by rfl) (by rfl) (by first | exact P2.2 | exact (P2.alloc _).2) rfl (by first | exact reads_one (Lies.made w2 9 #[.string x]) | exact reads_one (lies_longer (W0 := wr) (v := .slice (some ⟨wr.heap.size, 0, none⟩) 0 0) (lies_b wr x _) hl2 (own_ne (by omega))) | exact reads_one (lies_longer (W0 := wr) (v := .slice (some ⟨wr.heap.size + 1, 0, none⟩) 0 0) (lies_c wr x _) hl2 (own_ne (by omega)))) (by omega) (by omega) (by first | exact P2.1.size | exact (P2.alloc _).1.size) ?_
                     intro A3 c3 w3 hl3
                     have P3 : Grows wr A3 (j + 1) c3 (ZT ++ [x]) w3 := by first | exact P2.longer hl3 | exact (P2.alloc _).longer hl3)
                  | (refine step_append_any rfl (.tmp 39) (.tmp 42) rfl wr.heap.size (j + 1) 0 (c - j) (j + 1) (.slice A3 (j + 1) c3) (ZT ++ [x]) ZD (some ⟨g, j, none⟩) (by rfl) (by rfl) P3.2 HZD.out (P3.reads RD.out) (by omega) (by omega) P3.1.size ?_
                     intro A4 c4 w4 hl4
                     have P4 : Grows wr A4 (j + 1) c4 (ZT ++ [x] ++ ZD) w4 := P3.longer hl4))
              all_goals
                rw [HIN.out] at P4
                have P5 := Lib.hid P4
                clear P2 P3 P4 hl2 hl3 hl4
                go_wp2
                go_roundw
                case rel => exact ⟨j + 1, c4, A4, by omega, rfl, by go_num, Keeps.own_lower P5.out.2 HB.out.size, HB.out.trans (P5.out.1.mono HB.out.size)⟩
                case measure => simp [intOf]; omega
    · have t1 : decide ((k : Int) < (l.length : Int)) = false := by simp; omega
      have t1' : decide (k < l.length) = false := by simp; omega
      obtain rfl : k = l.length := by omega
      have HRD : Hid (Reads wr A (srt l)) := by
        obtain ⟨A', c', e1, _, hr⟩ := Reads.own HO.out
        cases e1
        rw [List.take_length] at hr
        exact hr
      go_wp2
      go_ret
      exact ⟨A, c, rfl, HRD.out, HB.out⟩
end Go.Proofs.Ytfendnccnhmllaa
