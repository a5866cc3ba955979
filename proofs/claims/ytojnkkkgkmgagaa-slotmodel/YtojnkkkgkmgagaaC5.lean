/- The walk of the statement on acts, one behind the other. -/
import Derived.Test.YtojnkkkgkmgagaaMd
import Derived.BigRegion
import Derived.IntWalk
namespace Go.Proofs.Ytojnkkkgkmgagaa.Model
open Go.RowKit

set_option maxRecDepth 100000 in
set_option maxHeartbeats 4000000 in
theorem out (room : Int) (l : List Ac) (tick : Int) (a : Option Addr) (cap : Nat) (w : World) (hm : l.length ≤ maxLen) (hr : ActsIn w a cap l) (hro : room < 1 ∨ 256 < room) : Calls Try.prog 3 #[.int .i64 room, .slice a l.length cap, .int .i64 tick] w (Woke w) := by
  have KO := Lib.hid (fun W => new_no room hro W)
  have HR := Lib.hid hr
  unfold maxLen at hm
  clear hr
  go_enter Try.func3, Try.ntmps3
  go_wp2_with (fail)
  refine (awake _).mono ?_
  rintro e w1 ⟨rfl, hb1⟩
  have B1 := Lib.hid hb1
  clear hb1
  by_cases h40 : 40 < l.length
  · as_aux_lemma =>
    have t1 : decide ((40 : Int) < (l.length : Int)) = true := by simp; omega
    go_wp2_with (fail)
    refine (awake _).mono ?_
    rintro e w3 ⟨rfl, hb3⟩
    go_wp2
    go_ret
    exact ⟨rfl, B1.out.trans (hb3.mono B1.out.size)⟩
  have t1 : decide ((40 : Int) < (l.length : Int)) = false := by simp; omega
  have KF := Lib.hid (few l a l.length cap rfl (by omega) (HR.out.below (Nat.le_refl _) B1.out))
  by_cases hf : fewB l = true
  rotate_left
  · rw [show fewB l = false by simpa using hf] at KF
    go_wp2_with (fail)
    refine KF.out.mono ?_
    rintro e w2 ⟨rfl, q, rfl⟩
    have B2 := Lib.hid (below_drewN B1.out q)
    go_wp2_with (fail)
    refine (awake _).mono ?_
    rintro e w3 ⟨rfl, hb3⟩
    go_wp2
    go_ret
    exact ⟨rfl, B2.out.trans (hb3.mono B2.out.size)⟩
  rw [hf] at KF
  have HFW := Lib.hid hf
  clear hf
  go_wp2_with (fail)
  refine KF.out.mono ?_
  rintro e w2 ⟨rfl, q, rfl⟩
  have B2 := Lib.hid (below_drewN B1.out q)
  clear KF
  go_wp2_with (fail)
  with_reducible refine (KO.out _).mono ?_
  rintro e w3 ⟨rfl, rfl⟩
  by_cases h1 : room < 1
  · as_aux_lemma =>
    have t2 : decide (room < 1) = true := by simp; omega
    clear hro
    go_wp2
    go_ret
    exact ⟨rfl, B2.out⟩
  · as_aux_lemma =>
    have t2 : decide (room < 1) = false := by simp; omega
    have t3 : decide (256 < room) = true := by simp; omega
    clear hro h1
    go_wp2
    go_ret
    exact ⟨rfl, B2.out⟩

def ActRel (w : World) (p room N : Nat) (mv i : Value) (W : World) : Prop :=
  ∃ (k n : Nat) (m : List Ky) (g : Option Nat) (A : Option Addr) (c : Nat), k ≤ N ∧ n ≤ k ∧ mv = .slice A n c ∧ i = .int .i64 (k : Int) ∧ St w p room g m m A c n W
def TryRel (w : World) (p room : Nat) (g5 : Option Nat) (m2 m : List Ky) (A : Option Addr) (c j ab sb : Nat) (y0 y1 y2 y3 y4 y5 : Int) (W : World) : Prop :=
  ∃ x : Int, Tried m y1 y2 y3 y4 y5 x ∧ -1048576 ≤ x ∧ St w p room g5 m2 m A c j W ∧ Lies W sb 33 #[.int .i64 y1, .int .i64 y2, .int .i64 x, .int .i64 (x + y3)] ∧ Lies W ab 31 #[.int .i64 y0, .int .i64 y1, .int .i64 y2, .int .i64 y3, .int .i64 y4, .int .i64 y5]
def AtR (tick : Int) (m : List Ky) (n : Nat) (V : World) (v i : Value) (W : World) : Prop :=
  ∃ (j q : Nat) (A : Option Addr) (c : Nat), j ≤ n ∧ q ≤ j ∧ v = .slice A q c ∧ i = .int .i64 (j : Int) ∧ GrowsQ V A q c (atL tick (m.take j)) W
def FndRel (m : List Ky) (id : Int) (n : Nat) (V : World) (kv j : Value) (W : World) : Prop :=
  ∃ (i : Nat) (r : Int), i ≤ n ∧ kv = .int .i64 r ∧ j = .int .i64 (i : Int) ∧ Below V.heap.size V W ∧ FndTo m id i r

set_option maxRecDepth 100000 in
set_option maxHeartbeats 40000000 in
theorem core (room : Nat) (l : List Ac) (tick : Int) (a : Option Addr) (cap : Nat) (w : World) (hm : l.length ≤ maxLen) (hr : ActsIn w a cap l) (hr1 : 1 ≤ room) (hr2 : room ≤ 256) : Calls Try.prog 3 #[.int .i64 (room : Int), .slice a l.length cap, .int .i64 tick] w (Woke w) := by
  have KN := Lib.hid (fun W (hb : Below w.heap.size w W) => has_new (w0 := w) (W := W) room hb hr1 hr2)
  have HR := Lib.hid hr
  unfold maxLen at hm
  clear hr
  go_enter Try.func3, Try.ntmps3
  go_wp2_with (fail)
  refine (awake _).mono ?_
  rintro e w1 ⟨rfl, hb1⟩
  have B1 := Lib.hid hb1
  clear hb1
  by_cases h40 : 40 < l.length
  · as_aux_lemma =>
    have t1 : decide ((40 : Int) < (l.length : Int)) = true := by simp; omega
    go_wp2_with (fail)
    refine (awake _).mono ?_
    rintro e w3 ⟨rfl, hb3⟩
    go_wp2
    go_ret
    exact ⟨rfl, B1.out.trans (hb3.mono B1.out.size)⟩
  have t1 : decide ((40 : Int) < (l.length : Int)) = false := by simp; omega
  have KF := Lib.hid (few l a l.length cap rfl (by omega) (HR.out.below (Nat.le_refl _) B1.out))
  by_cases hf : fewB l = true
  rotate_left
  · rw [show fewB l = false by simpa using hf] at KF
    go_wp2_with (fail)
    refine KF.out.mono ?_
    rintro e w2 ⟨rfl, q, rfl⟩
    have B2 := Lib.hid (below_drewN B1.out q)
    go_wp2_with (fail)
    refine (awake _).mono ?_
    rintro e w3 ⟨rfl, hb3⟩
    go_wp2
    go_ret
    exact ⟨rfl, B2.out.trans (hb3.mono B2.out.size)⟩
  rw [hf] at KF
  have HFW := Lib.hid hf
  clear hf
  go_wp2_with (fail)
  refine KF.out.mono ?_
  rintro e w2 ⟨rfl, q, rfl⟩
  have B2 := Lib.hid (below_drewN B1.out q)
  clear KF
  go_wp2_with (fail)
  refine (KN.out _ B2.out).mono ?_
  rintro e w3 ⟨rfl, h2, _⟩
  have H2 := Lib.hid h2
  clear h2
  generalize (w1.drewN q).heap.size = p at H2 ⊢
  have t2 : decide ((room : Int) < 1) = false := by simp; omega
  have t3 : decide ((256 : Int) < (room : Int)) = false := by simp; omega
  go_wp2
  go_loopw [9, 10] (fun mv i W => ActRel w p room l.length mv i W) (fun _ i _ => l.length - (intOf i).toNat)
  case atStart => exact ⟨0, 0, [], none, none, 0, by omega, by omega, rfl, rfl, H2.out, World.ownsRow_nil _ _ _ _, fun k hk => by cases hk⟩
  case round =>
    obtain ⟨k, n, m, gg, A, c, hk, hnk, rfl, rfl, hh⟩ := hrel
    have H3 := Lib.hid hh
    clear hh
    by_cases hlt : k < l.length
    · as_aux_lemma =>
      have t4 : decide ((k : Int) < (l.length : Int)) = true := by simp; omega
      have hx : l[k]? = some l[k] := List.getElem?_eq_getElem hlt
      obtain ⟨b, off, rfl, hbl, x0, x1, x2, x3, x4, x5⟩ := (HR.out.below (Nat.le_refl _) H3.out.has.below).cells hx
      clear hx
      generalize l[k] = x at x0 x1 x2 x3 x4 x5
      obtain ⟨y0, y1, y2, y3, y4, y5⟩ := x
      simp only at x0 x1 x2 x3 x4 x5
      have i1 : (0 : Int) ≤ (k : Int) := by omega
      obtain ⟨V, hV⟩ : ∃ V, V = wr.alloc (.cells #[.int .i64 y0, .int .i64 y1, .int .i64 y2, .int .i64 y3, .int .i64 y4, .int .i64 y5] 31) := ⟨_, rfl⟩
      have HLV : Hid (Lies V wr.heap.size 31 #[.int .i64 y0, .int .i64 y1, .int .i64 y2, .int .i64 y3, .int .i64 y4, .int .i64 y5]) := by rw [hV]; exact Lies.made _ _ _
      have H4 : Hid (St w p room gg m m A c n V) := by rw [hV]; exact H3.out.keep (below_new _ _)
      have HVE := Lib.hid hV
      have hpl : p < wr.heap.size := (H3.out.has.tab.lt (.inl rfl)).2
      have HGL := Lib.hid (fun q (hq : gg = some q) => (H3.out.has.tab.lt (.inr hq)).2)
      have HML := Lib.hid H3.out.len
      have HGD := Lib.hid H3.out.has.tab.good
      have hn40 : n ≤ 40 := by omega
      have hlen2 : m.length ≤ room := H3.out.has.tab.len
      rw [HML.out] at hlen2
      clear hV
      go_upto_region 13 with fail
      rw [← HVE.out]
      clear x0 x1 x2 x3 x4 x5 HVE H3
      generalize wr.heap.size = ab at HLV hpl HGL ⊢
      go_wp2
      go_loopw [12, 13] (fun kv j W => FndRel m y1 n V kv j W) (fun _ j _ => n - (intOf j).toNat)
      case atStart => exact ⟨0, -1, by omega, rfl, rfl, Below.refl _ _, FndTo.start _ _⟩
      case round =>
        obtain ⟨j, r, hj, rfl, rfl, hb, hf⟩ := hrel
        have HB := Lib.hid hb
        have HF := Lib.hid hf
        have HL := Lib.hid (HLV.out.below hb HLV.out.lt)
        have H5 := Lib.hid (H4.out.keep hb)
        clear hb hf
        have hal := HL.out.lt
        have z1 : wr.cell? ⟨ab, 1, none⟩ = some (.int .i64 y1) := HL.out.cell 1
        by_cases hjn : j < n
        · as_aux_lemma =>
          have t5 : decide ((j : Int) < (n : Int)) = true := by simp; omega
          have hjm : j < m.length := by have := HML.out; omega
          have hx : m[j]? = some m[j] := List.getElem?_eq_getElem hjm
          obtain ⟨gb, go, rfl, hgb, u0, -⟩ := H5.out.keys.cells hx
          have HX := Lib.hid hx
          clear hx
          generalize m[j] = s at u0 HX
          have i2 : (0 : Int) ≤ (j : Int) := by omega
          by_cases he : s.1 = y1
          · as_aux_lemma =>
            have t6 : (s.1 == y1) = true := by simp [he]
            have HF2 := Lib.hid (FndTo.hit HX.out he)
            clear he
            generalize s.1 = s1 at u0 t6
            go_wp2
            go_quiet (fail)
            go_wp2
            go_roundw
            case rel => exact ⟨j + 1, _, by omega, rfl, by go_num, below_drewN HB.out _, HF2.out⟩
            case measure => simp [intOf]; omega
          · as_aux_lemma =>
            have t6 : (s.1 == y1) = false := by simp [he]
            have HF2 := Lib.hid (HF.out.miss HX.out he)
            clear he
            generalize s.1 = s1 at u0 t6
            go_wp2
            go_quiet (fail)
            go_wp2
            go_roundw
            case rel => exact ⟨j + 1, _, by omega, rfl, by go_num, below_drewN HB.out _, HF2.out⟩
            case measure => simp [intOf]; omega
        · as_aux_lemma =>
          have t5 : decide ((j : Int) < (n : Int)) = false := by simp; omega
          have t5' : decide (j < n) = false := by simp; omega
          obtain rfl : j = n := by omega
          have HFN : Hid (Fnd m y1 r) := by
            have := HF.out
            rw [← HML.out] at this
            exact this.all
          clear HF H4 HB
          have z0 : wr.cell? ⟨ab, 0, none⟩ = some (.int .i64 y0) := HL.out.cell 0
          by_cases hdo : y0 = 1
          · as_aux_lemma =>
            have t6 : (y0 == 1) = true := by simp [hdo]
            clear hdo
            have KF := Lib.hid (has_free y1 H5.out.has)
            by_cases hid : y1 ∈ m.map idK
            · as_aux_lemma =>
              obtain ⟨i, s, hs, hi, hri⟩ := HFN.out.yes hid
              subst hri
              rw [show freeE m y1 = 0 by unfold freeE; rw [if_pos hid]] at KF
              have HWO := Lib.hid (wo_at HGD.out.ids hs hi)
              have HWL := Lib.hid (wo_length HGD.out.ids hid)
              have hil : i < j := by have := (List.getElem?_eq_some_iff.1 hs).1; have := HML.out; omega
              clear hid hs hi HFN
              have t7 : decide ((0 : Int) ≤ (i : Int)) = true := by simp
              have t8 : (Bool.true != true) = false := rfl
              go_wp2_with (fail)
              with_reducible refine KF.out.mono ?_
              rintro e w5 hth
              obtain ⟨rfl, g5, h5, ht5⟩ := H5.out.acts hth
              have H6 := Lib.hid h5
              clear h5 ht5 hth KF z0 z1
              go_upto_region 23 with fail
              obtain ⟨hjc, hc63, -, hpn⟩ := H6.out.plain
              obtain ⟨gb, rfl⟩ := hpn (by omega)
              obtain ⟨q1, hq1⟩ : ∃ q1, q1 = i + 1 := ⟨_, rfl⟩
              obtain ⟨NN, hNN⟩ : ∃ NN, NN = j - 1 := ⟨_, rfl⟩
              have hw1 : IntKind.i64.wrap ((i : Int) + 1) = (q1 : Int) := by rw [IntWalk.i64_in _ ⟨by omega, by omega⟩]; omega
              obtain ⟨ZT, hZT⟩ : ∃ ZT, ZT = m.take i := ⟨_, rfl⟩
              obtain ⟨ZD, hZD⟩ : ∃ ZD, ZD = m.drop q1 := ⟨_, rfl⟩
              have HZT := Lib.hid (show ZT.length = i by rw [hZT, List.length_take, HML.out] <;> omega)
              have HZD := Lib.hid (show ZD.length = j - q1 by rw [hZD, List.length_drop, HML.out])
              have HWE : Hid (ZT ++ ZD = wo m y1) := by rw [hZT, hZD, hq1]; exact Lib.hid HWO.out.symm
              have HK6 := Lib.hid H6.out.keys
              have RT : Hid (Keys w5 (some ⟨gb, 0, none⟩) c ZT) := by rw [hZT]; exact HK6.out.take i
              have q2 : i ≤ c := by omega
              have q3 : i ≤ j := by omega
              have q4 : q1 ≤ c := by omega
              have q5 : q1 ≤ j := by omega
              have p1 : (0 : Int) ≤ (i : Int) := by omega
              have p2 : (i : Int) ≤ (c : Int) := by omega
              have p3 : (0 : Int) ≤ (q1 : Int) := by omega
              have p4 : (q1 : Int) ≤ (j : Int) := by omega
              have p5 : (j : Int) ≤ (c : Int) := by omega
              have hN2 : NN ≤ 2000 := by omega
              have hi2 : i ≤ 2000 := by omega
              have hNk : NN + 1 ≤ k + 1 := by omega
              by_cases hcq : c = q1
              · as_aux_lemma =>
                have hjq : j = q1 := by omega
                have RD : Hid (Keys w5 (some ⟨gb, 0, none⟩) 0 ZD) := by
                  rw [hZD, List.drop_eq_nil_of_le (by rw [HML.out]; omega)]; exact keys_none _ _ _
                have HZD0 := Lib.hid (show ZD.length = 0 by have := HZD.out; omega)
                have HQ2 := Lib.hid (show i + 0 = NN by omega)
                clear hZT hZD HZD hq1 hNN
                subst hcq
                subst hjq
                go_wp2
                go_region_held3 (fun _ => True) (exact trivial)
                  (first
                    | (refine step_append_old (by rfl) (.tmp 95) (.tmp 98) (by rfl) w5 _ 0 i _ 0 i [] ZT (some ⟨gb, 0, none⟩) (by rfl) (by rfl) (by with_reducible exact GrowsQ.drew (grows_n0 _)) HZT.out RT.out (by omega) hi2 ?_; intro A2 c2 w6 hp2)
                    | (refine step_append_old (by rfl) (.tmp 99) (.tmp 103) (by rfl) w5 A2 i 0 0 c2 NN ([] ++ ZT) ZD (some ⟨gb, 0, none⟩) (by rfl) (by rfl) hp2.grows HZD0.out RD.out HQ2.out hN2 ?_; intro A3 c3 w7 hp3))
                all_goals
                  have HG := Lib.hid hp3.grows
                  rw [List.nil_append, HWE.out] at HG
                  clear hp2 hp3
                  have H7 := Lib.hid (H6.out.row HG.out)
                  go_wp2
                  go_roundw
                  case rel => exact ⟨k + 1, NN, wo m y1, g5, A3, c3, by omega, by omega, rfl, by go_num, H7.out⟩
                  case measure => simp [intOf]; omega
              · as_aux_lemma =>
                have RD : Hid (Keys w5 (some ⟨gb, 0 + q1 * 4, none⟩) (c - q1) ZD) := by
                  rw [hZD]; exact HK6.out.drop q1 (c - q1) (by rw [HML.out]; omega)
                rw [Nat.zero_add] at RD
                have HQ2 := Lib.hid (show i + (j - q1) = NN by omega)
                clear hZT hZD hq1 hNN
                go_wp2
                go_region_held3 (fun _ => True) (exact trivial)
                  (first
                    | (refine step_append_old (by rfl) (.tmp 95) (.tmp 98) (by rfl) w5 _ 0 i c 0 i [] ZT (some ⟨gb, 0, none⟩) (by rfl) (by rfl) (by with_reducible exact GrowsQ.drew (grows_n0 _)) HZT.out RT.out (by omega) hi2 ?_; intro A2 c2 w6 hp2)
                    | (refine step_append_old (by rfl) (.tmp 99) (.tmp 103) (by rfl) w5 A2 i (j - q1) (c - q1) c2 NN ([] ++ ZT) ZD (some ⟨gb, q1 * 4, none⟩) (by rfl) (by rfl) hp2.grows HZD.out RD.out HQ2.out hN2 ?_; intro A3 c3 w7 hp3))
                all_goals
                  have HG := Lib.hid hp3.grows
                  rw [List.nil_append, HWE.out] at HG
                  clear hp2 hp3
                  have H7 := Lib.hid (H6.out.row HG.out)
                  go_wp2
                  go_roundw
                  case rel => exact ⟨k + 1, NN, wo m y1, g5, A3, c3, by omega, by omega, rfl, by go_num, H7.out⟩
                  case measure => simp [intOf]; omega
            · as_aux_lemma =>
              obtain rfl := HFN.out.no hid
              rw [show freeE m y1 = 4 by unfold freeE; rw [if_neg hid]] at KF
              have HWN := Lib.hid (wo_none (ids_none.2 hid))
              clear hid HFN
              go_wp2_with (fail)
              with_reducible refine KF.out.mono ?_
              rintro e w5 hth
              obtain ⟨rfl, g5, h5, ht5⟩ := H5.out.acts hth
              have H6 := Lib.hid h5
              clear h5 ht5 hth KF z0 z1
              go_wp2
              go_roundw
              case rel => exact ⟨k + 1, j, m, g5, A, c, by omega, by omega, rfl, by go_num, by have h := H6.out; rw [HWN.out] at h; exact h⟩
              case measure => simp [intOf]; omega
          · as_aux_lemma =>
            have t6 : (y0 == 1) = false := by simp [hdo]
            clear hdo
            have KP := Lib.hid (has_reserve y1 y2 y3 y4 y5 H5.out.has)
            obtain ⟨re, hre⟩ : ∃ re, resE room m y1 y2 y3 y4 y5 = re := ⟨_, rfl⟩
            obtain ⟨rp, hrp⟩ : ∃ rp, resP room m y1 y2 y3 y4 y5 = rp := ⟨_, rfl⟩
            obtain ⟨m2, hrm⟩ : ∃ m2, resM room m y1 y2 y3 y4 y5 = m2 := ⟨_, rfl⟩
            rw [hre, hrp, hrm] at KP
            have HRE := Lib.hid hre
            have HRP := Lib.hid hrp
            have HRM := Lib.hid hrm
            clear hre hrp hrm
            have z2 : wr.cell? ⟨ab, 2, none⟩ = some (.int .i64 y2) := HL.out.cell 2
            have z3 : wr.cell? ⟨ab, 3, none⟩ = some (.int .i64 y3) := HL.out.cell 3
            have z4 : wr.cell? ⟨ab, 4, none⟩ = some (.int .i64 y4) := HL.out.cell 4
            have z5 : wr.cell? ⟨ab, 5, none⟩ = some (.int .i64 y5) := HL.out.cell 5
            go_wp2_with (fail)
            with_reducible refine KP.out.mono ?_
            rintro e w5 hth
            obtain ⟨rfl, g5, h5, ht5⟩ := H5.out.acts hth
            have H6 := Lib.hid h5
            have HL6 := Lib.hid (HL.out.turns ht5 (fun e => by
              rcases e with e | e
              · omega
              · have := HGL.out _ e; omega))
            clear h5 ht5 hth KP z0 z1 z2 z3 z4 z5 H5 HL
            have v1 : w5.cell? ⟨ab, 1, none⟩ = some (.int .i64 y1) := HL6.out.cell 1
            have v2 : w5.cell? ⟨ab, 2, none⟩ = some (.int .i64 y2) := HL6.out.cell 2
            have v3 : w5.cell? ⟨ab, 3, none⟩ = some (.int .i64 y3) := HL6.out.cell 3
            have v4 : w5.cell? ⟨ab, 4, none⟩ = some (.int .i64 y4) := HL6.out.cell 4
            have v5 : w5.cell? ⟨ab, 5, none⟩ = some (.int .i64 y5) := HL6.out.cell 5
            have hal5 := HL6.out.lt
            by_cases hrg : Rgt y3 y4 y5
            · as_aux_lemma =>
              obtain ⟨r1, r2, r3, r4, r5⟩ := hrg
              have s1 : decide (y3 < 1) = false := by simp; omega
              have s2 : decide (1048576 < y3) = false := by simp; omega
              have s3 : decide (y4 < 0) = false := by simp; omega
              have s4 : decide (y5 < y4) = false := by simp; omega
              have s5 : decide (1099511627776 < y5) = false := by simp; omega
              by_cases hid : y1 ∈ m.map idK
              · as_aux_lemma =>
                obtain ⟨i, s, hs, hi, hri⟩ := HFN.out.yes hid
                subst hri
                have t7 : decide ((0 : Int) ≤ (i : Int)) = true := by simp
                obtain ⟨e1, e2, e3⟩ := res7 ⟨r1, r2, r3, r4, r5⟩ hid
                obtain rfl : re = 7 := HRE.out.symm.trans e1
                obtain rfl : rp = 0 := HRP.out.symm.trans e2
                obtain rfl : m = m2 := e3.symm.trans HRM.out
                clear e1 e2 e3
                clear hid hs hi HFN
                have KS : Hid (Calls Try.prog 16 #[.pointer (some ⟨p, 0, none⟩)] w5 (Rows1 j m w5)) := by
                  have := all_of H6.out.has.tab
                  rw [HML.out] at this
                  exact this
                go_wp2_with (fail)
                with_reducible refine KS.out.mono ?_
                rintro e w8 ⟨A8, c8, rfl, hg8⟩
                have H8 := Lib.hid (H6.out.keep hg8.1)
                have SM := Lib.hid (refSame m A8 A c8 c (by rw [HML.out]; omega) hg8.keys H8.out.keys)
                rw [HML.out] at SM
                clear hg8 KS
                go_wp2_with (fail)
                with_reducible refine SM.out.mono ?_
                rintro e w9 ⟨rfl, q9, rfl⟩
                have H9 := Lib.hid (H8.out.keep (below_drewN (Below.refl _ _) q9))
                clear SM
                go_wp2
                go_roundw
                case rel => exact ⟨k + 1, j, m, g5, A, c, by omega, by omega, rfl, by go_num, H9.out⟩
                case measure => simp [intOf]; omega
              · as_aux_lemma =>
                obtain rfl := HFN.out.no hid
                clear HFN
                have HID := Lib.hid hid
                clear hid
                by_cases hfull : j = room
                · as_aux_lemma =>
                  have t8 : ((j : Int) == (room : Int)) = true := by rw [beq_iff_eq]; omega
                  have HRJ := Lib.hid (show room ≤ m.length by rw [HML.out]; omega)
                  clear hfull
                  obtain ⟨e1, e2, e3⟩ := res3 (room := room) (gr := y2) (m := m) ⟨r1, r2, r3, r4, r5⟩ HID.out HRJ.out
                  obtain rfl : re = 3 := HRE.out.symm.trans e1
                  obtain rfl : rp = 0 := HRP.out.symm.trans e2
                  obtain rfl : m = m2 := e3.symm.trans HRM.out
                  clear e1 e2 e3
                  have KS : Hid (Calls Try.prog 16 #[.pointer (some ⟨p, 0, none⟩)] w5 (Rows1 j m w5)) := by
                    have := all_of H6.out.has.tab
                    rw [HML.out] at this
                    exact this
                  go_wp2_with (fail)
                  with_reducible refine KS.out.mono ?_
                  rintro e w8 ⟨A8, c8, rfl, hg8⟩
                  have H8 := Lib.hid (H6.out.keep hg8.1)
                  have SM := Lib.hid (refSame m A8 A c8 c (by rw [HML.out]; omega) hg8.keys H8.out.keys)
                  rw [HML.out] at SM
                  clear hg8 KS
                  go_wp2_with (fail)
                  with_reducible refine SM.out.mono ?_
                  rintro e w9 ⟨rfl, q9, rfl⟩
                  have H9 := Lib.hid (H8.out.keep (below_drewN (Below.refl _ _) q9))
                  clear SM
                  go_wp2
                  go_roundw
                  case rel => exact ⟨k + 1, j, m, g5, A, c, by omega, by omega, rfl, by go_num, H9.out⟩
                  case measure => simp [intOf]; omega
                · as_aux_lemma =>
                  have t8 : ((j : Int) == (room : Int)) = false := by rw [beq_eq_false_iff_ne]; omega
                  have hroom : j < room := by omega
                  clear hfull
                  obtain ⟨U, hU⟩ : ∃ U, U = w5.alloc (.cells #[.int .i64 y1, .int .i64 y2, .int .i64 (y5 - y3), .int .i64 y5] 33) := ⟨_, rfl⟩
                  have HLU : Hid (Lies U w5.heap.size 33 #[.int .i64 y1, .int .i64 y2, .int .i64 (y5 - y3), .int .i64 (y5 - y3 + y3)]) := by rw [hU, show y5 - y3 + y3 = y5 by omega]; exact Lies.made _ _ _
                  have HLA : Hid (Lies U ab 31 #[.int .i64 y0, .int .i64 y1, .int .i64 y2, .int .i64 y3, .int .i64 y4, .int .i64 y5]) := by rw [hU]; exact HL6.out.alloc _
                  have H7 : Hid (St w p room g5 m2 m A c j U) := by rw [hU]; exact H6.out.keep (below_new _ _)
                  have HPS : Hid (∀ k, k = p ∨ g5 = some k → k < w5.heap.size) := fun k hk => (H6.out.has.tab.lt hk).2
                  have HAS : Hid (∀ k, (Value.slice A j c).ownBlock = some k → k < w5.heap.size) := fun k hk => (own_type H6.out.own hk).2.1
                  have HUE := Lib.hid hU
                  clear hU
                  go_wp2
                  rw [← HUE.out]
                  have HSW := Lib.hid H6.out.has.below.size
                  clear H6
                  have hsb : ab < w5.heap.size := hal5
                  clear HUE v1 v2 v3 v4 v5 hal5 HL6 HLV
                  generalize w5.heap.size = sb at HLU HPS HAS HSW hsb ⊢
                  go_loopw [163] (fun _ W => TryRel w p room g5 m2 m A c j ab sb y0 y1 y2 y3 y4 y5 W) (fun _ W => (cellZ W ⟨sb, 2, none⟩ - y4 + 1).toNat)
                  case atStart => exact ⟨y5 - y3, Tried.start _ _ _ _ _ _, by omega, H7.out, HLU.out, HLA.out⟩
                  case round =>
                    obtain ⟨x, htr, hx0, hst, hls, hla⟩ := hrel
                    have HTR := Lib.hid htr
                    have H8 := Lib.hid hst
                    have HLS := Lib.hid hls
                    have HLA8 := Lib.hid hla
                    have hxe : x ≤ y5 - y3 := htr.1
                    clear htr hst hls hla
                    have u0 : wr.cell? ⟨sb, 0, none⟩ = some (.int .i64 y1) := HLS.out.cell 0
                    have u1 : wr.cell? ⟨sb, 1, none⟩ = some (.int .i64 y2) := HLS.out.cell 1
                    have u2 : wr.cell? ⟨sb, 2, none⟩ = some (.int .i64 x) := HLS.out.cell 2
                    have u3 : wr.cell? ⟨sb, 3, none⟩ = some (.int .i64 (x + y3)) := HLS.out.cell 3
                    have v4 : wr.cell? ⟨ab, 4, none⟩ = some (.int .i64 y4) := HLA8.out.cell 4
                    have hsl := HLS.out.lt
                    have hal := HLA8.out.lt
                    by_cases hxf : y4 ≤ x
                    · as_aux_lemma =>
                      have t9 : decide (y4 ≤ x) = true := by simp [hxf]
                      have t10 : decide (x < y4) = false := by simp; omega
                      have KA := Lib.hid (refApart m (y1, y2, x, x + y3) A j c HML.out (by omega) H8.out.keys)
                      simp only [aggQ] at KA
                      by_cases hap : apB m (y1, y2, x, x + y3) = true
                      · as_aux_lemma =>
                        rw [hap] at KA
                        have HX := Lib.hid (HTR.out.found HGD.out r1 hap)
                        clear hap
                        go_wp2_with (fail)
                        with_reducible refine KA.out.mono ?_
                        rintro e w6 ⟨rfl, hb6⟩
                        have H9 := Lib.hid (H8.out.keep hb6)
                        have HLS9 := Lib.hid (HLS.out.below hb6 HLS.out.lt)
                        have HLA9 := Lib.hid (HLA8.out.below hb6 HLA8.out.lt)
                        clear hb6 u0 u1 u2 u3 v4 hsl hal KA
                        have u0 : w6.cell? ⟨sb, 0, none⟩ = some (.int .i64 y1) := HLS9.out.cell 0
                        have u1 : w6.cell? ⟨sb, 1, none⟩ = some (.int .i64 y2) := HLS9.out.cell 1
                        have u2 : w6.cell? ⟨sb, 2, none⟩ = some (.int .i64 x) := HLS9.out.cell 2
                        have u3 : w6.cell? ⟨sb, 3, none⟩ = some (.int .i64 (x + y3)) := HLS9.out.cell 3
                        have v4 : w6.cell? ⟨ab, 4, none⟩ = some (.int .i64 y4) := HLA9.out.cell 4
                        have hsl := HLS9.out.lt
                        have hal := HLA9.out.lt
                        obtain ⟨e1, e2, e3⟩ := res0 (room := room) (gr := y2) (m := m) (en := y5) ⟨r1, r2, r3, r4, r5⟩ HID.out (by rw [HML.out]; exact hroom) (by rw [HX.out]; exact hxf)
                        rw [HX.out] at e2 e3
                        obtain rfl : re = 0 := HRE.out.symm.trans e1
                        obtain rfl : rp = x := HRP.out.symm.trans e2
                        have HM2 := Lib.hid (HRM.out.symm.trans e3)
                        clear e1 e2 e3
                        obtain ⟨hjc, hc63, hpl2, -⟩ := H9.out.plain
                        have KU := Lib.hid (refPut m (y1, y2, rp, rp + y3) A c (by rw [HML.out]; omega) H9.out.keys hpl2 hc63)
                        rw [HML.out, ← HM2.out] at KU
                        simp only [aggQ] at KU
                        have HM3 : Hid (m2.length = j + 1) := by rw [HM2.out, length_put, HML.out]; exact Lib.hid rfl
                        clear hpl2
                        go_wp2_with (fail)
                        with_reducible refine KU.out.mono ?_
                        rintro e w7 ⟨A7, c7, rfl, hg7⟩
                        have HT := Lib.hid (H9.out.row hg7)
                        clear hg7 u0 u1 u2 u3 v4 hsl hal KU
                        have KS : Hid (Calls Try.prog 16 #[.pointer (some ⟨p, 0, none⟩)] w7 (Rows1 (j + 1) m2 w7)) := by
                          have := all_of HT.out.has.tab
                          rw [HM3.out] at this
                          exact this
                        go_wp2_with (fail)
                        with_reducible refine KS.out.mono ?_
                        rintro e w8 ⟨A8, c8, rfl, hg8⟩
                        have H8 := Lib.hid (HT.out.keep hg8.1)
                        have SM := Lib.hid (refSame m2 A8 A7 c8 c7 (by rw [HM3.out]; omega) hg8.keys H8.out.keys)
                        rw [HM3.out] at SM
                        clear hg8 KS
                        go_wp2_with (fail)
                        with_reducible refine SM.out.mono ?_
                        rintro e w9 ⟨rfl, q9, rfl⟩
                        have H9 := Lib.hid (H8.out.keep (below_drewN (Below.refl _ _) q9))
                        clear SM
                        go_wp2
                        go_roundw
                        case rel => exact ⟨k + 1, j + 1, m2, g5, A7, c7, by omega, by omega, rfl, by go_num, H9.out⟩
                        case measure => simp [intOf]; omega
                      · as_aux_lemma =>
                        have hap2 : apB m (y1, y2, x, x + y3) = false := by simpa using hap
                        rw [hap2] at KA
                        have HTN := Lib.hid (HTR.out.next hxf hap2)
                        clear hap hap2
                        go_wp2_with (fail)
                        with_reducible refine KA.out.mono ?_
                        rintro e w6 ⟨rfl, hb6⟩
                        have H9 := Lib.hid (H8.out.keep hb6)
                        have HLS9 := Lib.hid (HLS.out.below hb6 HLS.out.lt)
                        have HLA9 := Lib.hid (HLA8.out.below hb6 HLA8.out.lt)
                        have HOLD := Lib.hid (cellZ_of u2)
                        clear hb6 u0 u1 u2 u3 v4 hsl hal KA
                        have u2 : w6.cell? ⟨sb, 2, none⟩ = some (.int .i64 x) := HLS9.out.cell 2
                        have u3 : w6.cell? ⟨sb, 3, none⟩ = some (.int .i64 (x + y3)) := HLS9.out.cell 3
                        have f2 : w6.frozen? ⟨sb, 2, none⟩ = false := HLS9.out.thawed 2
                        have f3 : w6.frozen? ⟨sb, 3, none⟩ = false := HLS9.out.thawed 3
                        have hsl := HLS9.out.lt
                        have HT1 : Hid (St w p room g5 m2 m A c j ((w6.setCell ⟨sb, 2, none⟩ (.int .i64 (x - 1))).setCell ⟨sb, 3, none⟩ (.int .i64 (x + y3 - 1)))) := H9.out.turns HSW.out (fun e => by have := HPS.out p (.inl rfl); omega) (fun e => by have := HPS.out sb (.inr e); omega) (fun e => by have := HAS.out sb e; omega) (((Turns.refl (fun k => k = sb) w6).setCell (a := ⟨sb, 2, none⟩) (.inr rfl) _).setCell (a := ⟨sb, 3, none⟩) (.inr rfl) _)
                        have HT2 : Hid (Lies ((w6.setCell ⟨sb, 2, none⟩ (.int .i64 (x - 1))).setCell ⟨sb, 3, none⟩ (.int .i64 (x + y3 - 1))) sb 33 #[.int .i64 y1, .int .i64 y2, .int .i64 (x - 1), .int .i64 (x - 1 + y3)]) := by
                          have := (HLS9.out.here 2 (.int .i64 (x - 1))).here 3 (.int .i64 (x + y3 - 1))
                          rw [show x - 1 + y3 = x + y3 - 1 by omega]
                          exact this
                        have HT3 : Hid (Lies ((w6.setCell ⟨sb, 2, none⟩ (.int .i64 (x - 1))).setCell ⟨sb, 3, none⟩ (.int .i64 (x + y3 - 1))) ab 31 #[.int .i64 y0, .int .i64 y1, .int .i64 y2, .int .i64 y3, .int .i64 y4, .int .i64 y5]) := (HLA9.out.there (a := ⟨sb, 2, none⟩) (by simp; omega) _).there (a := ⟨sb, 3, none⟩) (by simp; omega) _
                        have HNEW : Hid (cellZ ((w6.setCell ⟨sb, 2, none⟩ (.int .i64 (x - 1))).setCell ⟨sb, 3, none⟩ (.int .i64 (x + y3 - 1))) ⟨sb, 2, none⟩ = x - 1) := cellZ_of (HT2.out.cell 2)
                        go_wp2
                        go_roundw
                        case rel => exact ⟨x - 1, HTN.out, by omega, HT1.out, HT2.out, HT3.out⟩
                        case measure =>
                          rw [HOLD.out, HNEW.out]
                          omega
                    · as_aux_lemma =>
                      have t9 : decide (y4 ≤ x) = false := by simp; omega
                      have t10 : decide (x < y4) = true := by simp; omega
                      have HX := Lib.hid (HTR.out.none HGD.out r1 (by omega))
                      clear hxf
                      obtain ⟨e1, e2, e3⟩ := res4 (room := room) (gr := y2) (m := m) ⟨r1, r2, r3, r4, r5⟩ HID.out (by rw [HML.out]; exact hroom) HX.out
                      obtain rfl : re = 4 := HRE.out.symm.trans e1
                      obtain rfl : rp = 0 := HRP.out.symm.trans e2
                      obtain rfl : m = m2 := e3.symm.trans HRM.out
                      clear e1 e2 e3
                      have KS : Hid (Calls Try.prog 16 #[.pointer (some ⟨p, 0, none⟩)] wr (Rows1 j m wr)) := by
                        have := all_of H8.out.has.tab
                        rw [HML.out] at this
                        exact this
                      go_wp2_with (fail)
                      with_reducible refine KS.out.mono ?_
                      rintro e w8 ⟨A8, c8, rfl, hg8⟩
                      have H10 := Lib.hid (H8.out.keep hg8.1)
                      have SM := Lib.hid (refSame m A8 A c8 c (by rw [HML.out]; omega) hg8.keys H10.out.keys)
                      rw [HML.out] at SM
                      clear hg8 KS
                      go_wp2_with (fail)
                      with_reducible refine SM.out.mono ?_
                      rintro e w9 ⟨rfl, q9, rfl⟩
                      have H9 := Lib.hid (H10.out.keep (below_drewN (Below.refl _ _) q9))
                      clear SM
                      go_wp2
                      go_roundw
                      case rel => exact ⟨k + 1, j, m, g5, A, c, by omega, by omega, rfl, by go_num, H9.out⟩
                      case measure => simp [intOf]; omega
            · as_aux_lemma =>
              have HRG := Lib.hid hrg
              clear HFN
              by_cases c1 : y3 < 1
              · as_aux_lemma =>
                have s1 : decide (y3 < 1) = true := decide_eq_true c1
                clear c1 hrg
                obtain ⟨e1, e2, e3⟩ := res1 HRG.out
                obtain rfl : re = 1 := HRE.out.symm.trans e1
                obtain rfl : rp = 0 := HRP.out.symm.trans e2
                obtain rfl : m = m2 := e3.symm.trans HRM.out
                clear e1 e2 e3
                have KS : Hid (Calls Try.prog 16 #[.pointer (some ⟨p, 0, none⟩)] w5 (Rows1 j m w5)) := by
                  have := all_of H6.out.has.tab
                  rw [HML.out] at this
                  exact this
                go_wp2_with (fail)
                with_reducible refine KS.out.mono ?_
                rintro e w8 ⟨A8, c8, rfl, hg8⟩
                have H8 := Lib.hid (H6.out.keep hg8.1)
                have SM := Lib.hid (refSame m A8 A c8 c (by rw [HML.out]; omega) hg8.keys H8.out.keys)
                rw [HML.out] at SM
                clear hg8 KS
                go_wp2_with (fail)
                with_reducible refine SM.out.mono ?_
                rintro e w9 ⟨rfl, q9, rfl⟩
                have H9 := Lib.hid (H8.out.keep (below_drewN (Below.refl _ _) q9))
                clear SM
                go_wp2
                go_roundw
                case rel => exact ⟨k + 1, j, m, g5, A, c, by omega, by omega, rfl, by go_num, H9.out⟩
                case measure => simp [intOf]; omega
              · as_aux_lemma =>
                have s1 : decide (y3 < 1) = false := decide_eq_false c1
                by_cases c2 : 1048576 < y3
                · as_aux_lemma =>
                  have s2 : decide (1048576 < y3) = true := decide_eq_true c2
                  clear c2 hrg
                  obtain ⟨e1, e2, e3⟩ := res1 HRG.out
                  obtain rfl : re = 1 := HRE.out.symm.trans e1
                  obtain rfl : rp = 0 := HRP.out.symm.trans e2
                  obtain rfl : m = m2 := e3.symm.trans HRM.out
                  clear e1 e2 e3
                  have KS : Hid (Calls Try.prog 16 #[.pointer (some ⟨p, 0, none⟩)] w5 (Rows1 j m w5)) := by
                    have := all_of H6.out.has.tab
                    rw [HML.out] at this
                    exact this
                  go_wp2_with (fail)
                  with_reducible refine KS.out.mono ?_
                  rintro e w8 ⟨A8, c8, rfl, hg8⟩
                  have H8 := Lib.hid (H6.out.keep hg8.1)
                  have SM := Lib.hid (refSame m A8 A c8 c (by rw [HML.out]; omega) hg8.keys H8.out.keys)
                  rw [HML.out] at SM
                  clear hg8 KS
                  go_wp2_with (fail)
                  with_reducible refine SM.out.mono ?_
                  rintro e w9 ⟨rfl, q9, rfl⟩
                  have H9 := Lib.hid (H8.out.keep (below_drewN (Below.refl _ _) q9))
                  clear SM
                  go_wp2
                  go_roundw
                  case rel => exact ⟨k + 1, j, m, g5, A, c, by omega, by omega, rfl, by go_num, H9.out⟩
                  case measure => simp [intOf]; omega
                · as_aux_lemma =>
                  have s2 : decide (1048576 < y3) = false := decide_eq_false c2
                  by_cases c3 : y4 < 0
                  · as_aux_lemma =>
                    have s3 : decide (y4 < 0) = true := decide_eq_true c3
                    clear c3 hrg
                    obtain ⟨e1, e2, e3⟩ := res1 HRG.out
                    obtain rfl : re = 1 := HRE.out.symm.trans e1
                    obtain rfl : rp = 0 := HRP.out.symm.trans e2
                    obtain rfl : m = m2 := e3.symm.trans HRM.out
                    clear e1 e2 e3
                    have KS : Hid (Calls Try.prog 16 #[.pointer (some ⟨p, 0, none⟩)] w5 (Rows1 j m w5)) := by
                      have := all_of H6.out.has.tab
                      rw [HML.out] at this
                      exact this
                    go_wp2_with (fail)
                    with_reducible refine KS.out.mono ?_
                    rintro e w8 ⟨A8, c8, rfl, hg8⟩
                    have H8 := Lib.hid (H6.out.keep hg8.1)
                    have SM := Lib.hid (refSame m A8 A c8 c (by rw [HML.out]; omega) hg8.keys H8.out.keys)
                    rw [HML.out] at SM
                    clear hg8 KS
                    go_wp2_with (fail)
                    with_reducible refine SM.out.mono ?_
                    rintro e w9 ⟨rfl, q9, rfl⟩
                    have H9 := Lib.hid (H8.out.keep (below_drewN (Below.refl _ _) q9))
                    clear SM
                    go_wp2
                    go_roundw
                    case rel => exact ⟨k + 1, j, m, g5, A, c, by omega, by omega, rfl, by go_num, H9.out⟩
                    case measure => simp [intOf]; omega
                  · as_aux_lemma =>
                    have s3 : decide (y4 < 0) = false := decide_eq_false c3
                    by_cases c4 : y5 < y4
                    · as_aux_lemma =>
                      have s4 : decide (y5 < y4) = true := decide_eq_true c4
                      clear c4 hrg
                      obtain ⟨e1, e2, e3⟩ := res1 HRG.out
                      obtain rfl : re = 1 := HRE.out.symm.trans e1
                      obtain rfl : rp = 0 := HRP.out.symm.trans e2
                      obtain rfl : m = m2 := e3.symm.trans HRM.out
                      clear e1 e2 e3
                      have KS : Hid (Calls Try.prog 16 #[.pointer (some ⟨p, 0, none⟩)] w5 (Rows1 j m w5)) := by
                        have := all_of H6.out.has.tab
                        rw [HML.out] at this
                        exact this
                      go_wp2_with (fail)
                      with_reducible refine KS.out.mono ?_
                      rintro e w8 ⟨A8, c8, rfl, hg8⟩
                      have H8 := Lib.hid (H6.out.keep hg8.1)
                      have SM := Lib.hid (refSame m A8 A c8 c (by rw [HML.out]; omega) hg8.keys H8.out.keys)
                      rw [HML.out] at SM
                      clear hg8 KS
                      go_wp2_with (fail)
                      with_reducible refine SM.out.mono ?_
                      rintro e w9 ⟨rfl, q9, rfl⟩
                      have H9 := Lib.hid (H8.out.keep (below_drewN (Below.refl _ _) q9))
                      clear SM
                      go_wp2
                      go_roundw
                      case rel => exact ⟨k + 1, j, m, g5, A, c, by omega, by omega, rfl, by go_num, H9.out⟩
                      case measure => simp [intOf]; omega
                    · as_aux_lemma =>
                      have s4 : decide (y5 < y4) = false := decide_eq_false c4
                      have c5 : 1099511627776 < y5 := by unfold Rgt at hrg; omega
                      have s5 : decide (1099511627776 < y5) = true := decide_eq_true c5
                      clear c5 hrg
                      obtain ⟨e1, e2, e3⟩ := res1 HRG.out
                      obtain rfl : re = 1 := HRE.out.symm.trans e1
                      obtain rfl : rp = 0 := HRP.out.symm.trans e2
                      obtain rfl : m = m2 := e3.symm.trans HRM.out
                      clear e1 e2 e3
                      have KS : Hid (Calls Try.prog 16 #[.pointer (some ⟨p, 0, none⟩)] w5 (Rows1 j m w5)) := by
                        have := all_of H6.out.has.tab
                        rw [HML.out] at this
                        exact this
                      go_wp2_with (fail)
                      with_reducible refine KS.out.mono ?_
                      rintro e w8 ⟨A8, c8, rfl, hg8⟩
                      have H8 := Lib.hid (H6.out.keep hg8.1)
                      have SM := Lib.hid (refSame m A8 A c8 c (by rw [HML.out]; omega) hg8.keys H8.out.keys)
                      rw [HML.out] at SM
                      clear hg8 KS
                      go_wp2_with (fail)
                      with_reducible refine SM.out.mono ?_
                      rintro e w9 ⟨rfl, q9, rfl⟩
                      have H9 := Lib.hid (H8.out.keep (below_drewN (Below.refl _ _) q9))
                      clear SM
                      go_wp2
                      go_roundw
                      case rel => exact ⟨k + 1, j, m, g5, A, c, by omega, by omega, rfl, by go_num, H9.out⟩
                      case measure => simp [intOf]; omega
    · as_aux_lemma =>
      have t4 : decide ((k : Int) < (l.length : Int)) = false := by simp; omega
      have t4' : decide (k < l.length) = false := by simp; omega
      have HML := Lib.hid H3.out.len
      have HK3 := Lib.hid H3.out.keys
      have hn40 : n ≤ 40 := by omega
      obtain ⟨V, hV⟩ : ∃ V, V = wr := ⟨_, rfl⟩
      rw [← hV] at H3 HK3 ⊢
      clear hV
      go_wp2
      go_loopw [19, 20] (fun v i W => AtR tick m n V v i W) (fun _ i _ => n - (intOf i).toNat)
      case atStart => exact ⟨0, 0, none, 0, by omega, by omega, rfl, rfl, Below.refl _ _, World.ownsRow_nil _ _ _ _⟩
      case round =>
        obtain ⟨i, q, Ab, cb, hi, hqi, rfl, rfl, hg⟩ := hrel
        have HG := Lib.hid hg
        clear hg
        by_cases hin : i < n
        · as_aux_lemma =>
          have t5 : decide ((i : Int) < (n : Int)) = true := by simp; omega
          have him : i < m.length := by have := HML.out; omega
          have hx : m[i]? = some m[i] := List.getElem?_eq_getElem him
          obtain ⟨gb, go, rfl, hgb, x0, x1, x2, x3⟩ := (HK3.out.below (Nat.le_refl _) HG.out.1).cells hx
          have HST := Lib.hid (atL_step (tick := tick) hx)
          clear hx
          generalize m[i] = s at x0 x1 x2 x3 HST
          obtain ⟨s0, s1, s2, s3⟩ := s
          simp only at x0 x1 x2 x3
          have i1 : (0 : Int) ≤ (i : Int) := by omega
          have hb : hasB tick (s0, s1, s2, s3) = (decide (s2 ≤ tick) && decide (tick < s3)) := rfl
          generalize hb1 : decide (s2 ≤ tick) = b1 at hb
          generalize hb2 : decide (tick < s3) = b2 at hb
          have HBB := Lib.hid hb
          clear hb
          by_cases hbb : b1 = true ∧ b2 = true
          · as_aux_lemma =>
            obtain ⟨rfl, rfl⟩ := hbb
            rw [HBB.out] at HST
            simp only [Bool.and_self, if_true] at HST
            have HG2 := Lib.hid (HG.out.alloc (.cells #[.int .i64 s0, .int .i64 s1, .int .i64 s2, .int .i64 s3] 33))
            have HK2 := Lib.hid (keys_row (lies_m0 wr 33 #[.int .i64 s0, .int .i64 s1, .int .i64 s2, .int .i64 s3]) (l := [(s0, s1, s2, s3)]) (cap := 1) rfl (by simp))
            go_wp2_with (at_builtin; refine wpList_append_keys rfl (.tmp 229) (.tmp 234) rfl V Ab q 1 1 cb (q + 1) (atL tick (m.take i)) [(s0, s1, s2, s3)] (some ⟨wr.heap.size, 0, none⟩) rfl rfl HG2.out rfl HK2.out (by omega) (by omega) ?_; intro A2 c2 w2 hp2; have HP := Lib.hid hp2.grows; clear hp2)
            go_roundw
            case rel => exact ⟨i + 1, q + 1, A2, c2, by omega, by omega, rfl, by go_num, by rw [HST.out]; exact HP.out⟩
            case measure => simp [intOf]; omega
          · as_aux_lemma =>
            have HF : Hid (hasB tick (s0, s1, s2, s3) = false) := by
              rw [HBB.out]
              cases b1 with
              | false => exact Lib.hid rfl
              | true =>
                cases b2 with
                | false => exact Lib.hid rfl
                | true => exact absurd ⟨rfl, rfl⟩ hbb
            rw [HF.out] at HST
            simp only [Bool.false_eq_true, if_false, List.append_nil] at HST
            clear HBB
            cases b1 with
            | false =>
              clear hbb
              go_wp2
              go_roundw
              case rel => exact ⟨i + 1, q, Ab, cb, by omega, by omega, rfl, by go_num, by rw [HST.out]; exact HG.out⟩
              case measure => simp [intOf]; omega
            | true =>
              obtain rfl : b2 = false := by cases b2 with
                | false => rfl
                | true => exact absurd ⟨rfl, rfl⟩ hbb
              clear hbb
              go_wp2
              go_roundw
              case rel => exact ⟨i + 1, q, Ab, cb, by omega, by omega, rfl, by go_num, by rw [HST.out]; exact HG.out⟩
              case measure => simp [intOf]; omega
        · as_aux_lemma =>
          have t5 : decide ((i : Int) < (n : Int)) = false := by simp; omega
          have t5' : decide (i < n) = false := by simp; omega
          have HE : Hid ((atL tick m).length = q ∧ GrowsQ V Ab q cb (atL tick m) wr) := by
            have h1 := HG.out
            rw [List.take_of_length_le (by rw [HML.out]; omega)] at h1
            have h2 := h1.2.1
            rw [length_flatQ] at h2
            exact ⟨by omega, h1⟩
          have HL := Lib.hid HE.out.1
          have HGG := Lib.hid HE.out.2
          have H4 := Lib.hid (H3.out.has.keep HE.out.2.1)
          have KA := Lib.hid (at_of tick H4.out.tab)
          rw [HL.out] at KA
          have hq40 : q ≤ 40 := by omega
          clear HE HG
          go_wp2_with (fail)
          with_reducible refine KA.out.mono ?_
          rintro e w5 ⟨A5, c5, rfl, hg5⟩
          have H5 := Lib.hid (H4.out.keep hg5.1)
          have SM := Lib.hid (refSame (atL tick m) A5 Ab c5 cb (by rw [HL.out]; omega) hg5.keys (HGG.out.keys.below (Nat.le_refl _) hg5.1))
          rw [HL.out] at SM
          clear hg5 KA
          go_wp2_with (fail)
          with_reducible refine SM.out.mono ?_
          rintro e w6 ⟨rfl, q6, rfl⟩
          have H6 := Lib.hid (H5.out.drewN q6)
          have KD := Lib.hid (depth_of tick H6.out.tab)
          rw [HL.out] at KD
          clear SM
          go_wp2_with (fail)
          with_reducible refine KD.out.mono ?_
          rintro e w7 ⟨rfl, hb7⟩
          have H7 := Lib.hid (H6.out.keep hb7).below
          clear hb7
          go_wp2
          go_ret
          exact ⟨rfl, H7.out⟩
end Go.Proofs.Ytojnkkkgkmgagaa.Model
