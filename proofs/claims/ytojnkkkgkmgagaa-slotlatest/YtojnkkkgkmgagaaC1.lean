/- The walk of the statement on what is answered being new memory. -/
import Derived.Test.YtojnkkkgkmgagaaAw
import Derived.Test.YtojnkkkgkmgagaaOp
namespace Go.Proofs.Ytojnkkkgkmgagaa
open Go.RowKit

theorem GrowsQ.row {W0 W : World} {A : Option Addr} {n c : Nat} {zs : List Ky} (h : GrowsQ W0 A n c zs W) : n ≤ c ∧ (0 < n → ∃ g, A = some ⟨g, 0, none⟩ ∧ W0.heap.size ≤ g ∧ KRow W g c zs) := by
  have hl := h.2.1
  rw [length_flatQ] at hl
  rcases h.2.2 with ⟨hn, rfl⟩ | ⟨g, cap, cur, e, hb, hg, hnc, hc, hsz, ht⟩
  · cases hn
    exact ⟨Nat.le_refl _, fun h0 => by omega⟩
  · cases e
    refine ⟨hnc, fun _ => ⟨g, rfl, hb, cur, hg, hsz, by omega, fun i t hi j v hj => ?_⟩⟩
    have h1 := flatQ_at j v hi hj
    rw [← ht, List.getElem?_take] at h1
    split at h1
    · rw [← Array.getElem?_toList]; exact h1
    · cases h1
theorem Has.turns {w0 W W' : World} {p room g : Nat} {gg : Option Nat} {m : List Ky} (h : Has w0 p room gg m W) (h0 : w0.heap.size ≤ g) (hp : p ≠ g) (hg : gg ≠ some g) (ht : Turns (fun k => k = g) W W') : Has w0 p room gg m W' :=
  ⟨h.tab.turns ht hp (fun k hk e => hg (by rw [hk, e])), h.below.trans (ht.below (fun k hk => by subst hk; exact h0) h.below.size)⟩
theorem resM_length (room : Nat) (m : List Ky) (id gr n fr en : Int) : (resM room m id gr n fr en).length ≤ m.length + 1 := by
  unfold resM
  split
  · rw [length_put]; omega
  · omega
namespace Keeps
def ResRel (w : World) (p n : Nat) (i : Value) (W : World) : Prop := ∃ (k : Nat) (m : List Ky) (g : Option Nat), k ≤ n ∧ m.length ≤ k ∧ i = .int .i64 (k : Int) ∧ Has w p 256 g m W
def OverRel (w : World) (p g c n c2 : Nat) (gg : Option Nat) (A2 : Option Addr) (m : List Ky) (i : Value) (W : World) : Prop :=
  ∃ k : Nat, k ≤ n ∧ i = .int .i64 (k : Int) ∧ Has w p 256 gg m W ∧ Keys W A2 c2 m ∧ (0 < n → KRow W g c [])

set_option maxRecDepth 100000 in
set_option maxHeartbeats 8000000 in
theorem core (l : List Ac) (a : Option Addr) (cap : Nat) (w : World) (hm : l.length ≤ maxLen) (hr : ActsIn w a cap l) : Calls Try.prog 5 #[.slice a l.length cap] w (Woke w) := by
  have HR := Lib.hid hr
  unfold maxLen at hm
  clear hr
  have KN := Lib.hid (fun W (hb : Below w.heap.size w W) => has_new (w0 := w) (W := W) 256 hb (by omega) (by omega))
  go_enter Try.func5, Try.ntmps5
  go_wp2_with (fail)
  refine (awake _).mono ?_
  rintro e w1 ⟨rfl, hb1⟩
  have B1 := Lib.hid hb1
  clear hb1
  by_cases h40 : 40 < l.length
  · have t1 : decide ((40 : Int) < (l.length : Int)) = true := by simp; omega
    go_wp2_with (fail)
    refine (awake _).mono ?_
    rintro e w3 ⟨rfl, hb3⟩
    go_wp2
    go_ret
    exact ⟨rfl, B1.out.trans (hb3.mono B1.out.size)⟩
  have t1 : decide ((40 : Int) < (l.length : Int)) = false := by simp; omega
  have KF := Lib.hid (few l a l.length cap rfl (by omega) (HR.out.below (Nat.le_refl _) B1.out))
  by_cases hf : fewB l = true
  rotate_left
  · rw [show fewB l = false by simpa using hf] at KF
    go_wp2_with (fail)
    refine KF.out.mono ?_
    rintro e w2 ⟨rfl, q, rfl⟩
    have B2 := Lib.hid (below_drewN B1.out q)
    go_wp2_with (fail)
    refine (awake _).mono ?_
    rintro e w3 ⟨rfl, hb3⟩
    go_wp2
    go_ret
    exact ⟨rfl, B2.out.trans (hb3.mono B2.out.size)⟩
  rw [hf] at KF
  have HFW := Lib.hid hf
  clear hf
  go_wp2_with (fail)
  refine KF.out.mono ?_
  rintro e w2 ⟨rfl, q, rfl⟩
  have B2 := Lib.hid (below_drewN B1.out q)
  clear KF
  go_wp2_with (fail)
  refine (KN.out _ B2.out).mono ?_
  rintro e w3 ⟨rfl, h2, _⟩
  have H2 := Lib.hid h2
  clear h2
  generalize (w1.drewN q).heap.size = p at H2 ⊢
  go_wp2
  go_loopw [5] (fun i W => ResRel w p l.length i W) (fun i _ => l.length - (intOf i).toNat)
  case atStart => exact ⟨0, [], none, by omega, by simp, rfl, H2.out⟩
  case round =>
    obtain ⟨k, m, gg, hk, hmk, rfl, hh⟩ := hrel
    have H3 := Lib.hid hh
    clear hh
    by_cases hlt : k < l.length
    · have t4 : decide ((k : Int) < (l.length : Int)) = true := by simp; omega
      have hx : l[k]? = some l[k] := List.getElem?_eq_getElem hlt
      have HC := Lib.hid (fun w' (hb : Below w.heap.size w w') => (HR.out.below (Nat.le_refl _) hb).cells hx)
      obtain ⟨b, off, rfl, hbl, x0, x1, x2, x3, x4, x5⟩ := HC.out _ H3.out.below
      clear hx
      generalize l[k] = x at HC x0 x1 x2 x3 x4 x5
      obtain ⟨y0, y1, y2, y3, y4, y5⟩ := x
      simp only at HC x0 x1 x2 x3 x4 x5
      clear x0
      have i1 : (0 : Int) ≤ (k : Int) := by omega
      have HML := Lib.hid (resM_length 256 m y1 y2 y3 y4 y5)
      have KP : Hid (∀ q, Calls Try.prog 12 #[.pointer (some ⟨p, 0, none⟩), .int .i64 y1, .int .i64 y2, .int .i64 y3, .int .i64 y4, .int .i64 y5] (wr.drewN q) (Then (.tuple #[.int .i64 (resP 256 m y1 y2 y3 y4 y5), .int .i64 (resE 256 m y1 y2 y3 y4 y5)]) w p 256 gg (resM 256 m y1 y2 y3 y4 y5) (wr.drewN q))) := fun q => has_reserve y1 y2 y3 y4 y5 (H3.out.drewN q)
      generalize resM 256 m y1 y2 y3 y4 y5 = m2 at KP HML
      generalize resP 256 m y1 y2 y3 y4 y5 = rp at KP
      generalize resE 256 m y1 y2 y3 y4 y5 = re at KP
      have H5C : Hid (∀ w', Below w.heap.size w w' → w'.cell? ⟨b, off + k * 6 + 1, none⟩ = some (.int .i64 y1) ∧ w'.cell? ⟨b, off + k * 6 + 2, none⟩ = some (.int .i64 y2) ∧ w'.cell? ⟨b, off + k * 6 + 3, none⟩ = some (.int .i64 y3) ∧ w'.cell? ⟨b, off + k * 6 + 4, none⟩ = some (.int .i64 y4) ∧ w'.cell? ⟨b, off + k * 6 + 5, none⟩ = some (.int .i64 y5)) := fun w' hb => by
        obtain ⟨b', off', e, _, _, z⟩ := HC.out w' hb
        cases e
        exact z
      clear HC
      go_upto_region 9 with fail
      go_region_held3 (fun w' => w'.cell? ⟨b, off + k * 6 + 1, none⟩ = some (.int .i64 y1) ∧ w'.cell? ⟨b, off + k * 6 + 2, none⟩ = some (.int .i64 y2) ∧ w'.cell? ⟨b, off + k * 6 + 3, none⟩ = some (.int .i64 y3) ∧ w'.cell? ⟨b, off + k * 6 + 4, none⟩ = some (.int .i64 y4) ∧ w'.cell? ⟨b, off + k * 6 + 5, none⟩ = some (.int .i64 y5)) (first | go_keep | (with_reducible exact H5C.out _ h4.below))
        ((go_at_call 12; refine (KP.out 1).mono ?_; rintro e w4 ⟨rfl, g4, h4, _⟩))
      have H4 := Lib.hid h4
      clear h4 x1 x2 x3 x4 x5
      go_wp2
      go_roundw
      case rel => exact ⟨k + 1, m2, g4, by omega, by have := HML.out; omega, by go_num, H4.out⟩
      case measure => simp [intOf]; omega
    · have t4 : decide ((k : Int) < (l.length : Int)) = false := by simp; omega
      have t4' : decide (k < l.length) = false := by simp; omega
      obtain ⟨n, hn⟩ : ∃ n, n = m.length := ⟨_, rfl⟩
      have HN := Lib.hid hn.symm
      have hn3 : n ≤ 40 := by omega
      clear hn
      have KS : Hid (∀ W, Has w p 256 gg m W → Calls Try.prog 16 #[.pointer (some ⟨p, 0, none⟩)] W (Rows1 n m W)) := fun W h => by
        have := all_of h.tab
        rw [HN.out] at this
        exact this
      have HWR := H3.out.below.size
      have HPL := (H3.out.tab.lt (.inl rfl)).2
      have HGL := Lib.hid (fun k (hk : gg = some k) => (H3.out.tab.lt (.inr hk)).2)
      go_wp2_with (fail)
      with_reducible refine (KS.out _ H3.out).mono ?_
      rintro e w4 ⟨A, c, rfl, hg4⟩
      have H4 := Lib.hid (H3.out.keep hg4.1)
      have HK5 := Lib.hid (hg4.keys.below (Nat.le_refl _) (below_new w4 (.cells #[] 33)))
      obtain ⟨hnc, hrow⟩ := hg4.row
      have HNC := Lib.hid hnc
      have HW0 := Lib.hid HWR
      obtain ⟨g, hg⟩ : ∃ g, 0 < n → A = some ⟨g, 0, none⟩ ∧ wr.heap.size ≤ g ∧ KRow w4 g c m := by
        by_cases h0 : 0 < n
        · obtain ⟨g, h⟩ := hrow h0
          exact ⟨g, fun _ => h⟩
        · exact ⟨0, fun h => absurd h h0⟩
      have HGG := Lib.hid hg
      have HG := Lib.hid (grows_n0 w4)
      clear hg4 hrow hg hnc
      go_wp2_with (
        at_builtin
        refine wpList_append_keys rfl (.tmp 69) (.tmp 70) rfl w4 (some ⟨w4.heap.size, 0, none⟩) 0 n c 0 n [] m A rfl rfl HG.out HN.out HK5.out (by omega) (by omega) ?_
        intro A2 c2 w5 hp5
        have HP5 := Lib.hid hp5.grows
        clear hp5)
      have H5 := Lib.hid (H4.out.keep HP5.out.1)
      have HK6 := Lib.hid HP5.out.keys
      have HAP : Hid (0 < n → ∀ x, A2 = some x → x.block ≠ g) := fun h0 x hx => by
        have h1 := HP5.out.fresh x hx
        have h2 := (HGG.out h0).2.2.lt
        omega
      have HPG : Hid (0 < n → p ≠ g ∧ gg ≠ some g) := fun h0 => by
        have h2 := (HGG.out h0).2.1
        exact ⟨by omega, fun e => by have := HGL.out _ e; omega⟩
      have HR5 : Hid (0 < n → KRow w5 g c []) := fun h0 => ((HGG.out h0).2.2.below HP5.out.1 (HGG.out h0).2.2.lt).bare
      clear HK5 HG HP5 H4
      go_loopw [8] (fun i W => OverRel w p g c n c2 gg A2 m i W) (fun i _ => n - (intOf i).toNat)
      case atStart => exact ⟨0, by omega, rfl, H5.out, HK6.out, HR5.out⟩
      case round =>
        obtain ⟨j, hj, rfl, hh, hkk, hrr⟩ := hrel
        have H6 := Lib.hid hh
        have HK7 := Lib.hid hkk
        have HR6 := Lib.hid hrr
        clear hh hkk hrr H5 HK6 HR5
        by_cases hjn : j < n
        · have t5 : decide ((j : Int) < (n : Int)) = true := by simp; omega
          have h0 : 0 < n := by omega
          obtain ⟨rfl, hge, _⟩ := HGG.out h0
          have HRR := Lib.hid (HR6.out h0)
          have HAA := Lib.hid (HAP.out h0)
          have hpg := HPG.out h0
          have hjc : j < c := by have := HNC.out; omega
          obtain ⟨u, hu⟩ := HRR.out.at_ hjc
          have y0 : wr.cell? ⟨g, j * 4, none⟩ = some (u 0) := (hu 0 (by omega)).1
          have f0 : wr.frozen? ⟨g, j * 4, none⟩ = false := (hu 0 (by omega)).2
          have y1 : wr.cell? ⟨g, j * 4 + 1, none⟩ = some (u 1) := (hu 1 (by omega)).1
          have f1 : wr.frozen? ⟨g, j * 4 + 1, none⟩ = false := (hu 1 (by omega)).2
          have y2 : wr.cell? ⟨g, j * 4 + 2, none⟩ = some (u 2) := (hu 2 (by omega)).1
          have f2 : wr.frozen? ⟨g, j * 4 + 2, none⟩ = false := (hu 2 (by omega)).2
          have y3 : wr.cell? ⟨g, j * 4 + 3, none⟩ = some (u 3) := (hu 3 (by omega)).1
          have f3 : wr.frozen? ⟨g, j * 4 + 3, none⟩ = false := (hu 3 (by omega)).2
          clear hu
          have hgl := HRR.out.lt
          have HX1 : Hid (Has w p 256 gg m ((((wr.setCell ⟨g, j * 4, none⟩ (.int .i64 (-7))).setCell ⟨g, j * 4 + 1, none⟩ (.int .i64 0)).setCell ⟨g, j * 4 + 2, none⟩ (.int .i64 0)).setCell ⟨g, j * 4 + 3, none⟩ (.int .i64 0))) := H6.out.turns (Nat.le_trans HW0.out hge) hpg.1 hpg.2 (turns_setCells (S := fun k => k = g) (g := g) rfl (cellsQ (-7, 0, 0, 0)) (j * 4) _ (Turns.refl _ _))
          have HX2 : Hid (KRow ((((wr.setCell ⟨g, j * 4, none⟩ (.int .i64 (-7))).setCell ⟨g, j * 4 + 1, none⟩ (.int .i64 0)).setCell ⟨g, j * 4 + 2, none⟩ (.int .i64 0)).setCell ⟨g, j * 4 + 3, none⟩ (.int .i64 0)) g c []) := HRR.out.spoil (j * 4) (cellsQ (-7, 0, 0, 0))
          have HX3 : Hid (Keys ((((wr.setCell ⟨g, j * 4, none⟩ (.int .i64 (-7))).setCell ⟨g, j * 4 + 1, none⟩ (.int .i64 0)).setCell ⟨g, j * 4 + 2, none⟩ (.int .i64 0)).setCell ⟨g, j * 4 + 3, none⟩ (.int .i64 0)) A2 c2 m) := (((HK7.out.setCell (p := ⟨g, j * 4, none⟩) HAA.out _).setCell (p := ⟨g, j * 4 + 1, none⟩) HAA.out _).setCell (p := ⟨g, j * 4 + 2, none⟩) HAA.out _).setCell (p := ⟨g, j * 4 + 3, none⟩) HAA.out _
          go_wp2
          go_roundw
          case rel => exact ⟨j + 1, by omega, by go_num, HX1.out, HX3.out, fun _ => HX2.out⟩
          case measure => simp [intOf]; omega
        · have t5 : decide ((j : Int) < (n : Int)) = false := by simp; omega
          have t5' : decide (j < n) = false := by simp; omega
          obtain ⟨n2, hn2⟩ : ∃ n2, n2 = (atL 0 m).length := ⟨_, rfl⟩
          have HN2 := Lib.hid hn2.symm
          have hn4 : n2 ≤ 40 := by
            have : (atL 0 m).length ≤ m.length := List.length_filter_le _ _
            rw [HN.out] at this
            omega
          clear hn2
          have KT : Hid (∀ W, Has w p 256 gg m W → Calls Try.prog 17 #[.pointer (some ⟨p, 0, none⟩), .int .i64 0] W (Rows1 n2 (atL 0 m) W)) := fun W h => by
            have := at_of 0 h.tab
            rw [HN2.out] at this
            exact this
          have HWR := H6.out.below.size
          have HPL := (H6.out.tab.lt (.inl rfl)).2
          have HGL := Lib.hid (fun k (hk : gg = some k) => (H6.out.tab.lt (.inr hk)).2)
          have HKL : Hid (0 < m.length → ∀ x, A2 = some x → x.block < wr.heap.size) := fun h0 x hx => by
            obtain ⟨b', off', e, hlt, _⟩ := HK7.out.form h0
            rw [e] at hx
            cases hx
            exact hlt
          clear HAP HPG HGG HW0 HNC HR6
          go_wp2_with (fail)
          with_reducible refine (KT.out _ H6.out).mono ?_
          rintro e w6 ⟨A4, c4, rfl, hg6⟩
          have H5 := Lib.hid (H6.out.keep hg6.1)
          have HK6 := Lib.hid (HK7.out.below (Nat.le_refl _) hg6.1)
          obtain ⟨hnc, hrow⟩ := hg6.row
          have HNC := Lib.hid hnc
          have HW0 := Lib.hid HWR
          obtain ⟨g, hg⟩ : ∃ g, 0 < n2 → A4 = some ⟨g, 0, none⟩ ∧ wr.heap.size ≤ g ∧ KRow w6 g c4 (atL 0 m) := by
            by_cases h0 : 0 < n2
            · obtain ⟨g, h⟩ := hrow h0
              exact ⟨g, fun _ => h⟩
            · exact ⟨0, fun h => absurd h h0⟩
          have HGG := Lib.hid hg
          have HM0 : Hid (0 < n2 → 0 < m.length) := fun h0 => by
            have : (atL 0 m).length ≤ m.length := List.length_filter_le _ _
            rw [HN2.out] at this
            omega
          have HAP : Hid (0 < n2 → ∀ x, A2 = some x → x.block ≠ g) := fun h0 x hx => by
            have h1 := HKL.out (HM0.out h0) x hx
            have h2 := (HGG.out h0).2.1
            omega
          have HPG : Hid (0 < n2 → p ≠ g ∧ gg ≠ some g) := fun h0 => by
            have h2 := (HGG.out h0).2.1
            exact ⟨by omega, fun e => by have := HGL.out _ e; omega⟩
          have HR5 : Hid (0 < n2 → KRow w6 g c4 []) := fun h0 => (HGG.out h0).2.2.bare
          clear hg6 hrow hg hnc H6 HK7
          go_wp2
          go_loopw [10] (fun i W => OverRel w p g c4 n2 c2 gg A2 m i W) (fun i _ => n2 - (intOf i).toNat)
          case atStart => exact ⟨0, by omega, rfl, H5.out, HK6.out, HR5.out⟩
          case round =>
            obtain ⟨j, hj, rfl, hh, hkk, hrr⟩ := hrel
            have H6 := Lib.hid hh
            have HK7 := Lib.hid hkk
            have HR6 := Lib.hid hrr
            clear hh hkk hrr H5 HK6 HR5
            by_cases hjn : j < n2
            · have t5 : decide ((j : Int) < (n2 : Int)) = true := by simp; omega
              have h0 : 0 < n2 := by omega
              obtain ⟨rfl, hge, _⟩ := HGG.out h0
              have HRR := Lib.hid (HR6.out h0)
              have HAA := Lib.hid (HAP.out h0)
              have hpg := HPG.out h0
              have hjc : j < c4 := by have := HNC.out; omega
              obtain ⟨u, hu⟩ := HRR.out.at_ hjc
              have y0 : wr.cell? ⟨g, j * 4, none⟩ = some (u 0) := (hu 0 (by omega)).1
              have f0 : wr.frozen? ⟨g, j * 4, none⟩ = false := (hu 0 (by omega)).2
              have y1 : wr.cell? ⟨g, j * 4 + 1, none⟩ = some (u 1) := (hu 1 (by omega)).1
              have f1 : wr.frozen? ⟨g, j * 4 + 1, none⟩ = false := (hu 1 (by omega)).2
              have y2 : wr.cell? ⟨g, j * 4 + 2, none⟩ = some (u 2) := (hu 2 (by omega)).1
              have f2 : wr.frozen? ⟨g, j * 4 + 2, none⟩ = false := (hu 2 (by omega)).2
              have y3 : wr.cell? ⟨g, j * 4 + 3, none⟩ = some (u 3) := (hu 3 (by omega)).1
              have f3 : wr.frozen? ⟨g, j * 4 + 3, none⟩ = false := (hu 3 (by omega)).2
              clear hu
              have hgl := HRR.out.lt
              have HX1 : Hid (Has w p 256 gg m ((((wr.setCell ⟨g, j * 4, none⟩ (.int .i64 (-8))).setCell ⟨g, j * 4 + 1, none⟩ (.int .i64 0)).setCell ⟨g, j * 4 + 2, none⟩ (.int .i64 0)).setCell ⟨g, j * 4 + 3, none⟩ (.int .i64 0))) := H6.out.turns (Nat.le_trans HW0.out hge) hpg.1 hpg.2 (turns_setCells (S := fun k => k = g) (g := g) rfl (cellsQ (-8, 0, 0, 0)) (j * 4) _ (Turns.refl _ _))
              have HX2 : Hid (KRow ((((wr.setCell ⟨g, j * 4, none⟩ (.int .i64 (-8))).setCell ⟨g, j * 4 + 1, none⟩ (.int .i64 0)).setCell ⟨g, j * 4 + 2, none⟩ (.int .i64 0)).setCell ⟨g, j * 4 + 3, none⟩ (.int .i64 0)) g c4 []) := HRR.out.spoil (j * 4) (cellsQ (-8, 0, 0, 0))
              have HX3 : Hid (Keys ((((wr.setCell ⟨g, j * 4, none⟩ (.int .i64 (-8))).setCell ⟨g, j * 4 + 1, none⟩ (.int .i64 0)).setCell ⟨g, j * 4 + 2, none⟩ (.int .i64 0)).setCell ⟨g, j * 4 + 3, none⟩ (.int .i64 0)) A2 c2 m) := (((HK7.out.setCell (p := ⟨g, j * 4, none⟩) HAA.out _).setCell (p := ⟨g, j * 4 + 1, none⟩) HAA.out _).setCell (p := ⟨g, j * 4 + 2, none⟩) HAA.out _).setCell (p := ⟨g, j * 4 + 3, none⟩) HAA.out _
              go_wp2
              go_roundw
              case rel => exact ⟨j + 1, by omega, by go_num, HX1.out, HX3.out, fun _ => HX2.out⟩
              case measure => simp [intOf]; omega
            · have t5 : decide ((j : Int) < (n2 : Int)) = false := by simp; omega
              have t5' : decide (j < n2) = false := by simp; omega
              go_wp2_with (fail)
              with_reducible refine (KS.out _ H6.out).mono ?_
              rintro e w7 ⟨A7, c7, rfl, hg7⟩
              have SM := Lib.hid (refSame m A7 A2 c7 c2 (by rw [HN.out]; omega) hg7.keys (HK7.out.below (Nat.le_refl _) hg7.1))
              have B7 := Lib.hid (H6.out.keep hg7.1).below
              rw [HN.out] at SM
              clear hg7
              go_wp2_with (fail)
              with_reducible refine SM.out.mono ?_
              rintro e w8 ⟨rfl, q, rfl⟩
              go_wp2
              go_ret
              exact ⟨rfl, below_drewN B7.out q⟩
end Keeps
end Go.Proofs.Ytojnkkkgkmgagaa
