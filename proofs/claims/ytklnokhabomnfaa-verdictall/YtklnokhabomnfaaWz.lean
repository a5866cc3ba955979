/- Why a set isn't right: the program's own answer. -/
import Derived.Test.YtklnokhabomnfaaQs
import Derived.Test.YtklnokhabomnfaaWy
import Derived.StillTailTactics
import Derived.Laws.EntriesVeiled
import Derived.Deep.RegionHeld3
namespace Go.Proofs.Ytklnokhabomnfaa
open Go.RowKit

/-- What stands in memory all the while. -/
structure Kept (b : Int) (l : List Tk) (a : Option Addr) (cap : Nat) (w W : World) : Prop where
  below : Below w.heap.size w W
  box : Lies W w.heap.size 24 #[.int .i64 b, .slice a l.length cap]
  tab : Lies W (w.heap.size + 1) 66 tableC
def WhyRel (b : Int) (l : List Tk) (a : Option Addr) (cap : Nat) (w : World) (i : Value) (W : World) : Prop :=
  ∃ k : Nat, k ≤ l.length ∧ i = .int .i64 (k : Int) ∧ Kept b l a cap w W ∧ whyG [] l = whyG (l.take k) (l.drop k)
/-- The first q questions were answered no. -/
def Asked (q : Nat) (e : List Tk) (t : Tk) : Prop := (1 ≤ q → bName e t = false) ∧ (2 ≤ q → bTimes t = false) ∧ (3 ≤ q → bMode t = false) ∧ (4 ≤ q → bFirm t = false) ∧ (5 ≤ q → bPrio e t = false)
def AskRel (b : Int) (l : List Tk) (a : Option Addr) (cap : Nat) (w : World) (g : Nat) (k : Nat) (t : Tk) (j : Value) (W : World) : Prop :=
  ∃ q : Nat, q ≤ 5 ∧ j = .int .i64 (q : Int) ∧ Kept b l a cap w W ∧ Lies W g 39 (boxK t) ∧ w.heap.size ≤ g ∧ Asked q (l.take k) t
theorem Kept.go {b : Int} {l : List Tk} {a : Option Addr} {cap : Nat} {w W W' : World} (h : Kept b l a cap w W) (hb : Below W.heap.size W W') : Kept b l a cap w W' :=
  ⟨h.below.trans (hb.mono h.below.size), h.box.below hb h.box.lt, h.tab.below hb h.tab.lt⟩

/-- What stands behind a call that was made with a question's copy beside it. -/
theorem kept_q {wr w' : World} {g s : Nat} {tC bC qC : Array Value} (hL : Lies wr g 39 tC) (hB : Lies wr s 24 bC) (hw' : Below (wr.alloc (.cells qC 66)).drew.heap.size (wr.alloc (.cells qC 66)).drew w') :
    Lies w' g 39 tC ∧ Lies w' s 24 bC ∧ Lies w' wr.heap.size 66 qC := by
  have h1 : Lies (wr.alloc (.cells qC 66)).drew g 39 tC := hL.alloc (.cells qC 66)
  have h2 : Lies (wr.alloc (.cells qC 66)).drew s 24 bC := hB.alloc (.cells qC 66)
  have h3 : Lies (wr.alloc (.cells qC 66)).drew wr.heap.size 66 qC := Lies.made wr 66 qC
  exact ⟨h1.below hw' h1.lt, h2.below hw' h2.lt, h3.below hw' h3.lt⟩

set_option maxRecDepth 100000 in
set_option maxHeartbeats 4000000 in
theorem why (b : Int) (l : List Tk) (a : Option Addr) (cap : Nat) {w : World} (hm : l.length ≤ maxLen) (ht : Tasks w a cap l) :
    Calls Try.prog 27 #[.agg #[.int .i64 b, .slice a l.length cap]] w (Whys (whyF b l) w) := by
  unfold maxLen at hm
  by_cases hb : 1 ≤ b ∧ b ≤ 1000
  · have HW1 := Lib.hid (fun W => within b 1 1000 W (b := true) (by simp [withinB, hb.1, hb.2]))
    by_cases hl : 1 ≤ l.length ∧ l.length ≤ 16
    · have HW2 := Lib.hid (fun W => within (l.length : Int) 1 16 W (b := true) (by simp [withinB]; omega))
      have HV := Lib.hid (whyF_go hb hl)
      have HT := Lib.hid ht
      have hcap := ht.le
      obtain ⟨hl1, hl2⟩ := hl
      clear ht hb
      go_enter Try.func27, Try.ntmps27
      go_wp2_with (fail)
      with_reducible refine (HW1.out _).mono ?_
      rintro e w' ⟨rfl, rfl⟩
      go_wp2_with (fail)
      with_reducible refine (HW2.out _).mono ?_
      rintro e w' ⟨rfl, rfl⟩
      go_wp2_with (fail)
      refine (questions _).mono ?_
      rintro e w' ⟨rfl, rfl⟩
      have HK0 : Hid (Kept b l a cap w ((w.alloc (.cells #[.int .i64 b, .slice a l.length cap] 24)).alloc (.cells tableC 66))) :=
        ⟨(below_new _ _).alloc (by simp) _, (Lies.made _ _ _).alloc _, by have := Lies.made (w.alloc (.cells #[.int .i64 b, .slice a l.length cap] 24)) 66 tableC; simpa using this⟩
      go_wp2
      go_loopw [22] (fun i W => WhyRel b l a cap w i W) (fun i _ => l.length - (intOf i).toNat)
      case atStart => exact ⟨0, Nat.zero_le _, rfl, HK0.out, rfl⟩
      case round =>
        obtain ⟨k, hk, rfl, hkept, hwhy⟩ := hrel
        have HK := Lib.hid hkept
        have HY := Lib.hid hwhy
        clear hkept hwhy HK0
        by_cases hlt : k < l.length
        · have t1 : decide ((k : Int) < (l.length : Int)) = true := by simp; omega
          have hx : l[k]? = some l[k] := List.getElem?_eq_getElem hlt
          have HX := Lib.hid hx
          obtain ⟨bb, off, rfl, hbl, x0, x1, x2, x3, x4, x5, x6, x7, x8, x9, x10⟩ := (HT.out.below (Nat.le_refl _) HK.out.below).cells hx
          clear hx
          generalize l[k] = t at x0 x1 x2 x3 x4 x5 x6 x7 x8 x9 x10 HX
          have y1 : wr.cell? ⟨w.heap.size, 1, none⟩ = some (.slice (some ⟨bb, off, none⟩) l.length cap) := HK.out.box.cell 1
          have hs := HK.out.below.size
          have HK1 := Lib.hid (HK.out.go (below_new wr (.cells (boxK t) 39)))
          have HL1 := Lib.hid (Lies.made wr 39 (boxK t))
          go_wp2
          obtain ⟨g, hg⟩ : ∃ g, g = wr.heap.size := ⟨_, rfl⟩
          rw [← hg] at HL1 ⊢
          have hwg : w.heap.size ≤ g := by omega
          have HG := Lib.hid hg
          clear hg x0 x1 x2 x3 x4 x5 x6 x7 x8 x9 x10 y1 hs hbl
          go_loopw [29] (fun j W => AskRel b l (some ⟨bb, off, none⟩) cap w g k t j W) (fun j _ => 5 - (intOf j).toNat)
          case atStart => exact ⟨0, by omega, rfl, HK1.out, HL1.out, hwg, by unfold Asked; omega⟩
          case round =>
            obtain ⟨q, hq, rfl, hk2, hl2', _, hask⟩ := hrel
            have HK2 := Lib.hid hk2
            have HL2 := Lib.hid hl2'
            have HASK := Lib.hid hask
            clear hk2 hl2' hask HK1 HL1
            have y1 : wr.cell? ⟨w.heap.size, 1, none⟩ = some (.slice (some ⟨bb, off, none⟩) l.length cap) := HK2.out.box.cell 1
            have hsw : w.heap.size < wr.heap.size := HK2.out.box.lt
            have hst : w.heap.size + 1 < wr.heap.size := HK2.out.tab.lt
            have hsg : g < wr.heap.size := HL2.out.lt
            have z0 : wr.cell? ⟨g, 0, none⟩ = some (.string t.name) := HL2.out.cell 0
            have z1 : wr.cell? ⟨g, 1, none⟩ = some (.int .i64 t.T) := HL2.out.cell 1
            have z2 : wr.cell? ⟨g, 2, none⟩ = some (.int .i64 t.D) := HL2.out.cell 2
            have z3 : wr.cell? ⟨g, 3, none⟩ = some (.int .i64 t.C) := HL2.out.cell 3
            have z4 : wr.cell? ⟨g, 4, none⟩ = some (.int .i64 t.A) := HL2.out.cell 4
            have z5 : wr.cell? ⟨g, 5, none⟩ = some (.int .i64 t.Seg) := HL2.out.cell 5
            have z6 : wr.cell? ⟨g, 6, none⟩ = some (.int .i64 t.Cost) := HL2.out.cell 6
            have z7 : wr.cell? ⟨g, 7, none⟩ = some (.int .i64 t.M) := HL2.out.cell 7
            have z8 : wr.cell? ⟨g, 8, none⟩ = some (.int .i64 t.K) := HL2.out.cell 8
            have z9 : wr.cell? ⟨g, 9, none⟩ = some (.int .i64 t.Mode) := HL2.out.cell 9
            have z10 : wr.cell? ⟨g, 10, none⟩ = some (.int .i64 t.Prio) := HL2.out.cell 10
            have q1 : (0 : Int) ≤ (k : Int) := by omega
            have q2 : (k : Int) ≤ (cap : Int) := by omega
            match q, hq, HASK with
            | 0, _, HASK =>
              have y2 : wr.cell? ⟨w.heap.size + 1, 0, none⟩ = some (.int .i64 3) := HK2.out.tab.cell 0
              have y3 : wr.cell? ⟨w.heap.size + 1, 1, none⟩ = some (.func (.func 51) #[] #[]) := HK2.out.tab.cell 1
              simp only [Int.cast_ofNat_Int]
              have KC : Hid (Calls Try.prog 51 #[aggK t, .slice (some ⟨bb, off, none⟩) k cap] (wr.alloc (.cells #[.int .i64 3, .func (.func 51) #[] #[]] 66)).drew (Tells (bName (l.take k) t) (wr.alloc (.cells #[.int .i64 3, .func (.func 51) #[] #[]] 66)).drew)) := by
                have := badName t (l.take k) (some ⟨bb, off, none⟩) cap (w := (wr.alloc (.cells #[.int .i64 3, .func (.func 51) #[] #[]] 66)).drew) (by rw [List.length_take]; omega) (((HT.out.take k).below (Nat.le_refl _) HK2.out.below).below (Nat.le_refl _) (below_new wr _) |>.drewN 1)
                rw [List.length_take, Nat.min_eq_left (by omega)] at this
                exact this
              have KP : Hid (∀ w', Below (wr.alloc (.cells #[.int .i64 3, .func (.func 51) #[] #[]] 66)).drew.heap.size (wr.alloc (.cells #[.int .i64 3, .func (.func 51) #[] #[]] 66)).drew w' → (w'.cell? ⟨wr.heap.size, 1, none⟩ = some (.func (.func 51) #[] #[]) ∧ w'.cell? ⟨w.heap.size, 1, none⟩ = some (.slice (some ⟨bb, off, none⟩) l.length cap) ∧ w'.cell? ⟨g, 0, none⟩ = some (.string t.name) ∧ w'.cell? ⟨g, 1, none⟩ = some (.int .i64 t.T) ∧ w'.cell? ⟨g, 2, none⟩ = some (.int .i64 t.D) ∧ w'.cell? ⟨g, 3, none⟩ = some (.int .i64 t.C) ∧ w'.cell? ⟨g, 4, none⟩ = some (.int .i64 t.A) ∧ w'.cell? ⟨g, 5, none⟩ = some (.int .i64 t.Seg) ∧ w'.cell? ⟨g, 6, none⟩ = some (.int .i64 t.Cost) ∧ w'.cell? ⟨g, 7, none⟩ = some (.int .i64 t.M) ∧ w'.cell? ⟨g, 8, none⟩ = some (.int .i64 t.K) ∧ w'.cell? ⟨g, 9, none⟩ = some (.int .i64 t.Mode) ∧ w'.cell? ⟨g, 10, none⟩ = some (.int .i64 t.Prio)) ∧ w'.cell? ⟨wr.heap.size, 0, none⟩ = some (.int .i64 3)) := fun w' hw' => by
                obtain ⟨hL, hB, hQ⟩ := kept_q HL2.out HK2.out.box hw'
                exact ⟨⟨hQ.cell 1, hB.cell 1, hL.cell 0, hL.cell 1, hL.cell 2, hL.cell 3, hL.cell 4, hL.cell 5, hL.cell 6, hL.cell 7, hL.cell 8, hL.cell 9, hL.cell 10⟩, hQ.cell 0⟩
              have HBX : Hid (Below wr.heap.size wr (wr.alloc (.cells #[.int .i64 3, .func (.func 51) #[] #[]] 66)).drew) := below_drewN (below_new wr _) 1
              simp only [aggK] at KC
              cases hans : bName (l.take k) t with
              | true =>
                rw [hans] at KC
                have HBAD := Lib.hid (bad1_name  hans)
                clear hans
                go_wp2
                go_region_held3 (fun w' => w'.cell? ⟨wr.heap.size, 1, none⟩ = some (.func (.func 51) #[] #[]) ∧ w'.cell? ⟨w.heap.size, 1, none⟩ = some (.slice (some ⟨bb, off, none⟩) l.length cap) ∧ w'.cell? ⟨g, 0, none⟩ = some (.string t.name) ∧ w'.cell? ⟨g, 1, none⟩ = some (.int .i64 t.T) ∧ w'.cell? ⟨g, 2, none⟩ = some (.int .i64 t.D) ∧ w'.cell? ⟨g, 3, none⟩ = some (.int .i64 t.C) ∧ w'.cell? ⟨g, 4, none⟩ = some (.int .i64 t.A) ∧ w'.cell? ⟨g, 5, none⟩ = some (.int .i64 t.Seg) ∧ w'.cell? ⟨g, 6, none⟩ = some (.int .i64 t.Cost) ∧ w'.cell? ⟨g, 7, none⟩ = some (.int .i64 t.M) ∧ w'.cell? ⟨g, 8, none⟩ = some (.int .i64 t.K) ∧ w'.cell? ⟨g, 9, none⟩ = some (.int .i64 t.Mode) ∧ w'.cell? ⟨g, 10, none⟩ = some (.int .i64 t.Prio)) (first | go_keep | exact (KP.out _ H1.out).1) (first | ((with_reducible refine KC.out.mono ?_); rintro e w1 ⟨rfl, hb1⟩; have H1 := Lib.hid hb1; clear hb1))
                have u0 := (KP.out _ H1.out).2
                go_wp2
                go_ret2
                exact whys (by rw [HV.out, HY.out, whyG_stop HX.out (by rw [HBAD.out]; decide), HBAD.out]) ((HK2.out.below.trans (HBX.out.mono HK2.out.below.size)).trans (H1.out.mono (Nat.le_trans HK2.out.below.size HBX.out.size)))
              | false =>
                rw [hans] at KC
                have HA2 : Hid (Asked 1 (l.take k) t) := ⟨fun _ => hans, fun h => by omega, fun h => by omega, fun h => by omega, fun h => by omega⟩
                clear hans
                go_wp2
                go_region_held3 (fun w' => w'.cell? ⟨wr.heap.size, 1, none⟩ = some (.func (.func 51) #[] #[]) ∧ w'.cell? ⟨w.heap.size, 1, none⟩ = some (.slice (some ⟨bb, off, none⟩) l.length cap) ∧ w'.cell? ⟨g, 0, none⟩ = some (.string t.name) ∧ w'.cell? ⟨g, 1, none⟩ = some (.int .i64 t.T) ∧ w'.cell? ⟨g, 2, none⟩ = some (.int .i64 t.D) ∧ w'.cell? ⟨g, 3, none⟩ = some (.int .i64 t.C) ∧ w'.cell? ⟨g, 4, none⟩ = some (.int .i64 t.A) ∧ w'.cell? ⟨g, 5, none⟩ = some (.int .i64 t.Seg) ∧ w'.cell? ⟨g, 6, none⟩ = some (.int .i64 t.Cost) ∧ w'.cell? ⟨g, 7, none⟩ = some (.int .i64 t.M) ∧ w'.cell? ⟨g, 8, none⟩ = some (.int .i64 t.K) ∧ w'.cell? ⟨g, 9, none⟩ = some (.int .i64 t.Mode) ∧ w'.cell? ⟨g, 10, none⟩ = some (.int .i64 t.Prio)) (first | go_keep | exact (KP.out _ H1.out).1) (first | ((with_reducible refine KC.out.mono ?_); rintro e w1 ⟨rfl, hb1⟩; have H1 := Lib.hid hb1; clear hb1))
                go_wp2
                go_roundw
                case rel => exact ⟨1, by omega, by go_num, (HK2.out.go HBX.out).go H1.out, (HL2.out.below HBX.out HL2.out.lt).below H1.out (Nat.lt_of_lt_of_le HL2.out.lt HBX.out.size), hwg, HA2.out⟩
                case measure => simp [intOf]
            | 1, _, HASK =>
              have y2 : wr.cell? ⟨w.heap.size + 1, 2, none⟩ = some (.int .i64 4) := HK2.out.tab.cell 2
              have y3 : wr.cell? ⟨w.heap.size + 1, 3, none⟩ = some (.func (.func 52) #[] #[]) := HK2.out.tab.cell 3
              simp only [Int.cast_ofNat_Int]
              have KC : Hid (Calls Try.prog 52 #[aggK t, .slice (some ⟨bb, off, none⟩) k cap] (wr.alloc (.cells #[.int .i64 4, .func (.func 52) #[] #[]] 66)).drew (Tells (bTimes t) (wr.alloc (.cells #[.int .i64 4, .func (.func 52) #[] #[]] 66)).drew)) := by
                exact badTimes t _ _
              have KP : Hid (∀ w', Below (wr.alloc (.cells #[.int .i64 4, .func (.func 52) #[] #[]] 66)).drew.heap.size (wr.alloc (.cells #[.int .i64 4, .func (.func 52) #[] #[]] 66)).drew w' → (w'.cell? ⟨wr.heap.size, 1, none⟩ = some (.func (.func 52) #[] #[]) ∧ w'.cell? ⟨w.heap.size, 1, none⟩ = some (.slice (some ⟨bb, off, none⟩) l.length cap) ∧ w'.cell? ⟨g, 0, none⟩ = some (.string t.name) ∧ w'.cell? ⟨g, 1, none⟩ = some (.int .i64 t.T) ∧ w'.cell? ⟨g, 2, none⟩ = some (.int .i64 t.D) ∧ w'.cell? ⟨g, 3, none⟩ = some (.int .i64 t.C) ∧ w'.cell? ⟨g, 4, none⟩ = some (.int .i64 t.A) ∧ w'.cell? ⟨g, 5, none⟩ = some (.int .i64 t.Seg) ∧ w'.cell? ⟨g, 6, none⟩ = some (.int .i64 t.Cost) ∧ w'.cell? ⟨g, 7, none⟩ = some (.int .i64 t.M) ∧ w'.cell? ⟨g, 8, none⟩ = some (.int .i64 t.K) ∧ w'.cell? ⟨g, 9, none⟩ = some (.int .i64 t.Mode) ∧ w'.cell? ⟨g, 10, none⟩ = some (.int .i64 t.Prio)) ∧ w'.cell? ⟨wr.heap.size, 0, none⟩ = some (.int .i64 4)) := fun w' hw' => by
                obtain ⟨hL, hB, hQ⟩ := kept_q HL2.out HK2.out.box hw'
                exact ⟨⟨hQ.cell 1, hB.cell 1, hL.cell 0, hL.cell 1, hL.cell 2, hL.cell 3, hL.cell 4, hL.cell 5, hL.cell 6, hL.cell 7, hL.cell 8, hL.cell 9, hL.cell 10⟩, hQ.cell 0⟩
              have HBX : Hid (Below wr.heap.size wr (wr.alloc (.cells #[.int .i64 4, .func (.func 52) #[] #[]] 66)).drew) := below_drewN (below_new wr _) 1
              simp only [aggK] at KC
              cases hans : bTimes t with
              | true =>
                rw [hans] at KC
                have HBAD := Lib.hid (bad1_times (HASK.out.1 (by omega)) hans)
                clear hans
                go_wp2
                go_region_held3 (fun w' => w'.cell? ⟨wr.heap.size, 1, none⟩ = some (.func (.func 52) #[] #[]) ∧ w'.cell? ⟨w.heap.size, 1, none⟩ = some (.slice (some ⟨bb, off, none⟩) l.length cap) ∧ w'.cell? ⟨g, 0, none⟩ = some (.string t.name) ∧ w'.cell? ⟨g, 1, none⟩ = some (.int .i64 t.T) ∧ w'.cell? ⟨g, 2, none⟩ = some (.int .i64 t.D) ∧ w'.cell? ⟨g, 3, none⟩ = some (.int .i64 t.C) ∧ w'.cell? ⟨g, 4, none⟩ = some (.int .i64 t.A) ∧ w'.cell? ⟨g, 5, none⟩ = some (.int .i64 t.Seg) ∧ w'.cell? ⟨g, 6, none⟩ = some (.int .i64 t.Cost) ∧ w'.cell? ⟨g, 7, none⟩ = some (.int .i64 t.M) ∧ w'.cell? ⟨g, 8, none⟩ = some (.int .i64 t.K) ∧ w'.cell? ⟨g, 9, none⟩ = some (.int .i64 t.Mode) ∧ w'.cell? ⟨g, 10, none⟩ = some (.int .i64 t.Prio)) (first | go_keep | exact (KP.out _ H1.out).1) (first | ((with_reducible refine KC.out.mono ?_); rintro e w1 ⟨rfl, hb1⟩; have H1 := Lib.hid hb1; clear hb1))
                have u0 := (KP.out _ H1.out).2
                go_wp2
                go_ret2
                exact whys (by rw [HV.out, HY.out, whyG_stop HX.out (by rw [HBAD.out]; decide), HBAD.out]) ((HK2.out.below.trans (HBX.out.mono HK2.out.below.size)).trans (H1.out.mono (Nat.le_trans HK2.out.below.size HBX.out.size)))
              | false =>
                rw [hans] at KC
                have HA2 : Hid (Asked 2 (l.take k) t) := ⟨fun _ => HASK.out.1 (by omega), fun _ => hans, fun h => by omega, fun h => by omega, fun h => by omega⟩
                clear hans
                go_wp2
                go_region_held3 (fun w' => w'.cell? ⟨wr.heap.size, 1, none⟩ = some (.func (.func 52) #[] #[]) ∧ w'.cell? ⟨w.heap.size, 1, none⟩ = some (.slice (some ⟨bb, off, none⟩) l.length cap) ∧ w'.cell? ⟨g, 0, none⟩ = some (.string t.name) ∧ w'.cell? ⟨g, 1, none⟩ = some (.int .i64 t.T) ∧ w'.cell? ⟨g, 2, none⟩ = some (.int .i64 t.D) ∧ w'.cell? ⟨g, 3, none⟩ = some (.int .i64 t.C) ∧ w'.cell? ⟨g, 4, none⟩ = some (.int .i64 t.A) ∧ w'.cell? ⟨g, 5, none⟩ = some (.int .i64 t.Seg) ∧ w'.cell? ⟨g, 6, none⟩ = some (.int .i64 t.Cost) ∧ w'.cell? ⟨g, 7, none⟩ = some (.int .i64 t.M) ∧ w'.cell? ⟨g, 8, none⟩ = some (.int .i64 t.K) ∧ w'.cell? ⟨g, 9, none⟩ = some (.int .i64 t.Mode) ∧ w'.cell? ⟨g, 10, none⟩ = some (.int .i64 t.Prio)) (first | go_keep | exact (KP.out _ H1.out).1) (first | ((with_reducible refine KC.out.mono ?_); rintro e w1 ⟨rfl, hb1⟩; have H1 := Lib.hid hb1; clear hb1))
                go_wp2
                go_roundw
                case rel => exact ⟨2, by omega, by go_num, (HK2.out.go HBX.out).go H1.out, (HL2.out.below HBX.out HL2.out.lt).below H1.out (Nat.lt_of_lt_of_le HL2.out.lt HBX.out.size), hwg, HA2.out⟩
                case measure => simp [intOf]
            | 2, _, HASK =>
              have y2 : wr.cell? ⟨w.heap.size + 1, 4, none⟩ = some (.int .i64 5) := HK2.out.tab.cell 4
              have y3 : wr.cell? ⟨w.heap.size + 1, 5, none⟩ = some (.func (.func 53) #[] #[]) := HK2.out.tab.cell 5
              simp only [Int.cast_ofNat_Int]
              have KC : Hid (Calls Try.prog 53 #[aggK t, .slice (some ⟨bb, off, none⟩) k cap] (wr.alloc (.cells #[.int .i64 5, .func (.func 53) #[] #[]] 66)).drew (Tells (bMode t) (wr.alloc (.cells #[.int .i64 5, .func (.func 53) #[] #[]] 66)).drew)) := by
                exact badMode t _ _
              have KP : Hid (∀ w', Below (wr.alloc (.cells #[.int .i64 5, .func (.func 53) #[] #[]] 66)).drew.heap.size (wr.alloc (.cells #[.int .i64 5, .func (.func 53) #[] #[]] 66)).drew w' → (w'.cell? ⟨wr.heap.size, 1, none⟩ = some (.func (.func 53) #[] #[]) ∧ w'.cell? ⟨w.heap.size, 1, none⟩ = some (.slice (some ⟨bb, off, none⟩) l.length cap) ∧ w'.cell? ⟨g, 0, none⟩ = some (.string t.name) ∧ w'.cell? ⟨g, 1, none⟩ = some (.int .i64 t.T) ∧ w'.cell? ⟨g, 2, none⟩ = some (.int .i64 t.D) ∧ w'.cell? ⟨g, 3, none⟩ = some (.int .i64 t.C) ∧ w'.cell? ⟨g, 4, none⟩ = some (.int .i64 t.A) ∧ w'.cell? ⟨g, 5, none⟩ = some (.int .i64 t.Seg) ∧ w'.cell? ⟨g, 6, none⟩ = some (.int .i64 t.Cost) ∧ w'.cell? ⟨g, 7, none⟩ = some (.int .i64 t.M) ∧ w'.cell? ⟨g, 8, none⟩ = some (.int .i64 t.K) ∧ w'.cell? ⟨g, 9, none⟩ = some (.int .i64 t.Mode) ∧ w'.cell? ⟨g, 10, none⟩ = some (.int .i64 t.Prio)) ∧ w'.cell? ⟨wr.heap.size, 0, none⟩ = some (.int .i64 5)) := fun w' hw' => by
                obtain ⟨hL, hB, hQ⟩ := kept_q HL2.out HK2.out.box hw'
                exact ⟨⟨hQ.cell 1, hB.cell 1, hL.cell 0, hL.cell 1, hL.cell 2, hL.cell 3, hL.cell 4, hL.cell 5, hL.cell 6, hL.cell 7, hL.cell 8, hL.cell 9, hL.cell 10⟩, hQ.cell 0⟩
              have HBX : Hid (Below wr.heap.size wr (wr.alloc (.cells #[.int .i64 5, .func (.func 53) #[] #[]] 66)).drew) := below_drewN (below_new wr _) 1
              simp only [aggK] at KC
              cases hans : bMode t with
              | true =>
                rw [hans] at KC
                have HBAD := Lib.hid (bad1_mode (HASK.out.1 (by omega)) (HASK.out.2.1 (by omega)) hans)
                clear hans
                go_wp2
                go_region_held3 (fun w' => w'.cell? ⟨wr.heap.size, 1, none⟩ = some (.func (.func 53) #[] #[]) ∧ w'.cell? ⟨w.heap.size, 1, none⟩ = some (.slice (some ⟨bb, off, none⟩) l.length cap) ∧ w'.cell? ⟨g, 0, none⟩ = some (.string t.name) ∧ w'.cell? ⟨g, 1, none⟩ = some (.int .i64 t.T) ∧ w'.cell? ⟨g, 2, none⟩ = some (.int .i64 t.D) ∧ w'.cell? ⟨g, 3, none⟩ = some (.int .i64 t.C) ∧ w'.cell? ⟨g, 4, none⟩ = some (.int .i64 t.A) ∧ w'.cell? ⟨g, 5, none⟩ = some (.int .i64 t.Seg) ∧ w'.cell? ⟨g, 6, none⟩ = some (.int .i64 t.Cost) ∧ w'.cell? ⟨g, 7, none⟩ = some (.int .i64 t.M) ∧ w'.cell? ⟨g, 8, none⟩ = some (.int .i64 t.K) ∧ w'.cell? ⟨g, 9, none⟩ = some (.int .i64 t.Mode) ∧ w'.cell? ⟨g, 10, none⟩ = some (.int .i64 t.Prio)) (first | go_keep | exact (KP.out _ H1.out).1) (first | ((with_reducible refine KC.out.mono ?_); rintro e w1 ⟨rfl, hb1⟩; have H1 := Lib.hid hb1; clear hb1))
                have u0 := (KP.out _ H1.out).2
                go_wp2
                go_ret2
                exact whys (by rw [HV.out, HY.out, whyG_stop HX.out (by rw [HBAD.out]; decide), HBAD.out]) ((HK2.out.below.trans (HBX.out.mono HK2.out.below.size)).trans (H1.out.mono (Nat.le_trans HK2.out.below.size HBX.out.size)))
              | false =>
                rw [hans] at KC
                have HA2 : Hid (Asked 3 (l.take k) t) := ⟨fun _ => HASK.out.1 (by omega), fun _ => HASK.out.2.1 (by omega), fun _ => hans, fun h => by omega, fun h => by omega⟩
                clear hans
                go_wp2
                go_region_held3 (fun w' => w'.cell? ⟨wr.heap.size, 1, none⟩ = some (.func (.func 53) #[] #[]) ∧ w'.cell? ⟨w.heap.size, 1, none⟩ = some (.slice (some ⟨bb, off, none⟩) l.length cap) ∧ w'.cell? ⟨g, 0, none⟩ = some (.string t.name) ∧ w'.cell? ⟨g, 1, none⟩ = some (.int .i64 t.T) ∧ w'.cell? ⟨g, 2, none⟩ = some (.int .i64 t.D) ∧ w'.cell? ⟨g, 3, none⟩ = some (.int .i64 t.C) ∧ w'.cell? ⟨g, 4, none⟩ = some (.int .i64 t.A) ∧ w'.cell? ⟨g, 5, none⟩ = some (.int .i64 t.Seg) ∧ w'.cell? ⟨g, 6, none⟩ = some (.int .i64 t.Cost) ∧ w'.cell? ⟨g, 7, none⟩ = some (.int .i64 t.M) ∧ w'.cell? ⟨g, 8, none⟩ = some (.int .i64 t.K) ∧ w'.cell? ⟨g, 9, none⟩ = some (.int .i64 t.Mode) ∧ w'.cell? ⟨g, 10, none⟩ = some (.int .i64 t.Prio)) (first | go_keep | exact (KP.out _ H1.out).1) (first | ((with_reducible refine KC.out.mono ?_); rintro e w1 ⟨rfl, hb1⟩; have H1 := Lib.hid hb1; clear hb1))
                go_wp2
                go_roundw
                case rel => exact ⟨3, by omega, by go_num, (HK2.out.go HBX.out).go H1.out, (HL2.out.below HBX.out HL2.out.lt).below H1.out (Nat.lt_of_lt_of_le HL2.out.lt HBX.out.size), hwg, HA2.out⟩
                case measure => simp [intOf]
            | 3, _, HASK =>
              have y2 : wr.cell? ⟨w.heap.size + 1, 6, none⟩ = some (.int .i64 6) := HK2.out.tab.cell 6
              have y3 : wr.cell? ⟨w.heap.size + 1, 7, none⟩ = some (.func (.func 54) #[] #[]) := HK2.out.tab.cell 7
              simp only [Int.cast_ofNat_Int]
              have KC : Hid (Calls Try.prog 54 #[aggK t, .slice (some ⟨bb, off, none⟩) k cap] (wr.alloc (.cells #[.int .i64 6, .func (.func 54) #[] #[]] 66)).drew (Tells (bFirm t) (wr.alloc (.cells #[.int .i64 6, .func (.func 54) #[] #[]] 66)).drew)) := by
                exact badFirm t _ _
              have KP : Hid (∀ w', Below (wr.alloc (.cells #[.int .i64 6, .func (.func 54) #[] #[]] 66)).drew.heap.size (wr.alloc (.cells #[.int .i64 6, .func (.func 54) #[] #[]] 66)).drew w' → (w'.cell? ⟨wr.heap.size, 1, none⟩ = some (.func (.func 54) #[] #[]) ∧ w'.cell? ⟨w.heap.size, 1, none⟩ = some (.slice (some ⟨bb, off, none⟩) l.length cap) ∧ w'.cell? ⟨g, 0, none⟩ = some (.string t.name) ∧ w'.cell? ⟨g, 1, none⟩ = some (.int .i64 t.T) ∧ w'.cell? ⟨g, 2, none⟩ = some (.int .i64 t.D) ∧ w'.cell? ⟨g, 3, none⟩ = some (.int .i64 t.C) ∧ w'.cell? ⟨g, 4, none⟩ = some (.int .i64 t.A) ∧ w'.cell? ⟨g, 5, none⟩ = some (.int .i64 t.Seg) ∧ w'.cell? ⟨g, 6, none⟩ = some (.int .i64 t.Cost) ∧ w'.cell? ⟨g, 7, none⟩ = some (.int .i64 t.M) ∧ w'.cell? ⟨g, 8, none⟩ = some (.int .i64 t.K) ∧ w'.cell? ⟨g, 9, none⟩ = some (.int .i64 t.Mode) ∧ w'.cell? ⟨g, 10, none⟩ = some (.int .i64 t.Prio)) ∧ w'.cell? ⟨wr.heap.size, 0, none⟩ = some (.int .i64 6)) := fun w' hw' => by
                obtain ⟨hL, hB, hQ⟩ := kept_q HL2.out HK2.out.box hw'
                exact ⟨⟨hQ.cell 1, hB.cell 1, hL.cell 0, hL.cell 1, hL.cell 2, hL.cell 3, hL.cell 4, hL.cell 5, hL.cell 6, hL.cell 7, hL.cell 8, hL.cell 9, hL.cell 10⟩, hQ.cell 0⟩
              have HBX : Hid (Below wr.heap.size wr (wr.alloc (.cells #[.int .i64 6, .func (.func 54) #[] #[]] 66)).drew) := below_drewN (below_new wr _) 1
              simp only [aggK] at KC
              cases hans : bFirm t with
              | true =>
                rw [hans] at KC
                have HBAD := Lib.hid (bad1_firm (HASK.out.1 (by omega)) (HASK.out.2.1 (by omega)) (HASK.out.2.2.1 (by omega)) hans)
                clear hans
                go_wp2
                go_region_held3 (fun w' => w'.cell? ⟨wr.heap.size, 1, none⟩ = some (.func (.func 54) #[] #[]) ∧ w'.cell? ⟨w.heap.size, 1, none⟩ = some (.slice (some ⟨bb, off, none⟩) l.length cap) ∧ w'.cell? ⟨g, 0, none⟩ = some (.string t.name) ∧ w'.cell? ⟨g, 1, none⟩ = some (.int .i64 t.T) ∧ w'.cell? ⟨g, 2, none⟩ = some (.int .i64 t.D) ∧ w'.cell? ⟨g, 3, none⟩ = some (.int .i64 t.C) ∧ w'.cell? ⟨g, 4, none⟩ = some (.int .i64 t.A) ∧ w'.cell? ⟨g, 5, none⟩ = some (.int .i64 t.Seg) ∧ w'.cell? ⟨g, 6, none⟩ = some (.int .i64 t.Cost) ∧ w'.cell? ⟨g, 7, none⟩ = some (.int .i64 t.M) ∧ w'.cell? ⟨g, 8, none⟩ = some (.int .i64 t.K) ∧ w'.cell? ⟨g, 9, none⟩ = some (.int .i64 t.Mode) ∧ w'.cell? ⟨g, 10, none⟩ = some (.int .i64 t.Prio)) (first | go_keep | exact (KP.out _ H1.out).1) (first | ((with_reducible refine KC.out.mono ?_); rintro e w1 ⟨rfl, hb1⟩; have H1 := Lib.hid hb1; clear hb1))
                have u0 := (KP.out _ H1.out).2
                go_wp2
                go_ret2
                exact whys (by rw [HV.out, HY.out, whyG_stop HX.out (by rw [HBAD.out]; decide), HBAD.out]) ((HK2.out.below.trans (HBX.out.mono HK2.out.below.size)).trans (H1.out.mono (Nat.le_trans HK2.out.below.size HBX.out.size)))
              | false =>
                rw [hans] at KC
                have HA2 : Hid (Asked 4 (l.take k) t) := ⟨fun _ => HASK.out.1 (by omega), fun _ => HASK.out.2.1 (by omega), fun _ => HASK.out.2.2.1 (by omega), fun _ => hans, fun h => by omega⟩
                clear hans
                go_wp2
                go_region_held3 (fun w' => w'.cell? ⟨wr.heap.size, 1, none⟩ = some (.func (.func 54) #[] #[]) ∧ w'.cell? ⟨w.heap.size, 1, none⟩ = some (.slice (some ⟨bb, off, none⟩) l.length cap) ∧ w'.cell? ⟨g, 0, none⟩ = some (.string t.name) ∧ w'.cell? ⟨g, 1, none⟩ = some (.int .i64 t.T) ∧ w'.cell? ⟨g, 2, none⟩ = some (.int .i64 t.D) ∧ w'.cell? ⟨g, 3, none⟩ = some (.int .i64 t.C) ∧ w'.cell? ⟨g, 4, none⟩ = some (.int .i64 t.A) ∧ w'.cell? ⟨g, 5, none⟩ = some (.int .i64 t.Seg) ∧ w'.cell? ⟨g, 6, none⟩ = some (.int .i64 t.Cost) ∧ w'.cell? ⟨g, 7, none⟩ = some (.int .i64 t.M) ∧ w'.cell? ⟨g, 8, none⟩ = some (.int .i64 t.K) ∧ w'.cell? ⟨g, 9, none⟩ = some (.int .i64 t.Mode) ∧ w'.cell? ⟨g, 10, none⟩ = some (.int .i64 t.Prio)) (first | go_keep | exact (KP.out _ H1.out).1) (first | ((with_reducible refine KC.out.mono ?_); rintro e w1 ⟨rfl, hb1⟩; have H1 := Lib.hid hb1; clear hb1))
                go_wp2
                go_roundw
                case rel => exact ⟨4, by omega, by go_num, (HK2.out.go HBX.out).go H1.out, (HL2.out.below HBX.out HL2.out.lt).below H1.out (Nat.lt_of_lt_of_le HL2.out.lt HBX.out.size), hwg, HA2.out⟩
                case measure => simp [intOf]
            | 4, _, HASK =>
              have y2 : wr.cell? ⟨w.heap.size + 1, 8, none⟩ = some (.int .i64 7) := HK2.out.tab.cell 8
              have y3 : wr.cell? ⟨w.heap.size + 1, 9, none⟩ = some (.func (.func 55) #[] #[]) := HK2.out.tab.cell 9
              simp only [Int.cast_ofNat_Int]
              have KC : Hid (Calls Try.prog 55 #[aggK t, .slice (some ⟨bb, off, none⟩) k cap] (wr.alloc (.cells #[.int .i64 7, .func (.func 55) #[] #[]] 66)).drew (Tells (bPrio (l.take k) t) (wr.alloc (.cells #[.int .i64 7, .func (.func 55) #[] #[]] 66)).drew)) := by
                have := badPrio t (l.take k) (some ⟨bb, off, none⟩) cap (w := (wr.alloc (.cells #[.int .i64 7, .func (.func 55) #[] #[]] 66)).drew) (by rw [List.length_take]; omega) (((HT.out.take k).below (Nat.le_refl _) HK2.out.below).below (Nat.le_refl _) (below_new wr _) |>.drewN 1)
                rw [List.length_take, Nat.min_eq_left (by omega)] at this
                exact this
              have KP : Hid (∀ w', Below (wr.alloc (.cells #[.int .i64 7, .func (.func 55) #[] #[]] 66)).drew.heap.size (wr.alloc (.cells #[.int .i64 7, .func (.func 55) #[] #[]] 66)).drew w' → (w'.cell? ⟨wr.heap.size, 1, none⟩ = some (.func (.func 55) #[] #[]) ∧ w'.cell? ⟨w.heap.size, 1, none⟩ = some (.slice (some ⟨bb, off, none⟩) l.length cap) ∧ w'.cell? ⟨g, 0, none⟩ = some (.string t.name) ∧ w'.cell? ⟨g, 1, none⟩ = some (.int .i64 t.T) ∧ w'.cell? ⟨g, 2, none⟩ = some (.int .i64 t.D) ∧ w'.cell? ⟨g, 3, none⟩ = some (.int .i64 t.C) ∧ w'.cell? ⟨g, 4, none⟩ = some (.int .i64 t.A) ∧ w'.cell? ⟨g, 5, none⟩ = some (.int .i64 t.Seg) ∧ w'.cell? ⟨g, 6, none⟩ = some (.int .i64 t.Cost) ∧ w'.cell? ⟨g, 7, none⟩ = some (.int .i64 t.M) ∧ w'.cell? ⟨g, 8, none⟩ = some (.int .i64 t.K) ∧ w'.cell? ⟨g, 9, none⟩ = some (.int .i64 t.Mode) ∧ w'.cell? ⟨g, 10, none⟩ = some (.int .i64 t.Prio)) ∧ w'.cell? ⟨wr.heap.size, 0, none⟩ = some (.int .i64 7)) := fun w' hw' => by
                obtain ⟨hL, hB, hQ⟩ := kept_q HL2.out HK2.out.box hw'
                exact ⟨⟨hQ.cell 1, hB.cell 1, hL.cell 0, hL.cell 1, hL.cell 2, hL.cell 3, hL.cell 4, hL.cell 5, hL.cell 6, hL.cell 7, hL.cell 8, hL.cell 9, hL.cell 10⟩, hQ.cell 0⟩
              have HBX : Hid (Below wr.heap.size wr (wr.alloc (.cells #[.int .i64 7, .func (.func 55) #[] #[]] 66)).drew) := below_drewN (below_new wr _) 1
              simp only [aggK] at KC
              cases hans : bPrio (l.take k) t with
              | true =>
                rw [hans] at KC
                have HBAD := Lib.hid (bad1_prio (HASK.out.1 (by omega)) (HASK.out.2.1 (by omega)) (HASK.out.2.2.1 (by omega)) (HASK.out.2.2.2.1 (by omega)) hans)
                clear hans
                go_wp2
                go_region_held3 (fun w' => w'.cell? ⟨wr.heap.size, 1, none⟩ = some (.func (.func 55) #[] #[]) ∧ w'.cell? ⟨w.heap.size, 1, none⟩ = some (.slice (some ⟨bb, off, none⟩) l.length cap) ∧ w'.cell? ⟨g, 0, none⟩ = some (.string t.name) ∧ w'.cell? ⟨g, 1, none⟩ = some (.int .i64 t.T) ∧ w'.cell? ⟨g, 2, none⟩ = some (.int .i64 t.D) ∧ w'.cell? ⟨g, 3, none⟩ = some (.int .i64 t.C) ∧ w'.cell? ⟨g, 4, none⟩ = some (.int .i64 t.A) ∧ w'.cell? ⟨g, 5, none⟩ = some (.int .i64 t.Seg) ∧ w'.cell? ⟨g, 6, none⟩ = some (.int .i64 t.Cost) ∧ w'.cell? ⟨g, 7, none⟩ = some (.int .i64 t.M) ∧ w'.cell? ⟨g, 8, none⟩ = some (.int .i64 t.K) ∧ w'.cell? ⟨g, 9, none⟩ = some (.int .i64 t.Mode) ∧ w'.cell? ⟨g, 10, none⟩ = some (.int .i64 t.Prio)) (first | go_keep | exact (KP.out _ H1.out).1) (first | ((with_reducible refine KC.out.mono ?_); rintro e w1 ⟨rfl, hb1⟩; have H1 := Lib.hid hb1; clear hb1))
                have u0 := (KP.out _ H1.out).2
                go_wp2
                go_ret2
                exact whys (by rw [HV.out, HY.out, whyG_stop HX.out (by rw [HBAD.out]; decide), HBAD.out]) ((HK2.out.below.trans (HBX.out.mono HK2.out.below.size)).trans (H1.out.mono (Nat.le_trans HK2.out.below.size HBX.out.size)))
              | false =>
                rw [hans] at KC
                have HA2 : Hid (Asked 5 (l.take k) t) := ⟨fun _ => HASK.out.1 (by omega), fun _ => HASK.out.2.1 (by omega), fun _ => HASK.out.2.2.1 (by omega), fun _ => HASK.out.2.2.2.1 (by omega), fun _ => hans⟩
                clear hans
                go_wp2
                go_region_held3 (fun w' => w'.cell? ⟨wr.heap.size, 1, none⟩ = some (.func (.func 55) #[] #[]) ∧ w'.cell? ⟨w.heap.size, 1, none⟩ = some (.slice (some ⟨bb, off, none⟩) l.length cap) ∧ w'.cell? ⟨g, 0, none⟩ = some (.string t.name) ∧ w'.cell? ⟨g, 1, none⟩ = some (.int .i64 t.T) ∧ w'.cell? ⟨g, 2, none⟩ = some (.int .i64 t.D) ∧ w'.cell? ⟨g, 3, none⟩ = some (.int .i64 t.C) ∧ w'.cell? ⟨g, 4, none⟩ = some (.int .i64 t.A) ∧ w'.cell? ⟨g, 5, none⟩ = some (.int .i64 t.Seg) ∧ w'.cell? ⟨g, 6, none⟩ = some (.int .i64 t.Cost) ∧ w'.cell? ⟨g, 7, none⟩ = some (.int .i64 t.M) ∧ w'.cell? ⟨g, 8, none⟩ = some (.int .i64 t.K) ∧ w'.cell? ⟨g, 9, none⟩ = some (.int .i64 t.Mode) ∧ w'.cell? ⟨g, 10, none⟩ = some (.int .i64 t.Prio)) (first | go_keep | exact (KP.out _ H1.out).1) (first | ((with_reducible refine KC.out.mono ?_); rintro e w1 ⟨rfl, hb1⟩; have H1 := Lib.hid hb1; clear hb1))
                go_wp2
                go_roundw
                case rel => exact ⟨5, by omega, by go_num, (HK2.out.go HBX.out).go H1.out, (HL2.out.below HBX.out HL2.out.lt).below H1.out (Nat.lt_of_lt_of_le HL2.out.lt HBX.out.size), hwg, HA2.out⟩
                case measure => simp [intOf]
            | 5, _, HASK =>
              have HF := Lib.hid (bad1_fine (HASK.out.1 (by omega)) (HASK.out.2.1 (by omega)) (HASK.out.2.2.1 (by omega)) (HASK.out.2.2.2.1 (by omega)) (HASK.out.2.2.2.2 (by omega)))
              simp only [Int.cast_ofNat_Int]
              go_wp2
              go_roundw
              case rel => exact ⟨k + 1, by omega, by go_num, HK2.out, HY.out.trans (whyG_next HX.out HF.out)⟩
              case measure => simp [intOf]; omega
        · have t1 : decide ((k : Int) < (l.length : Int)) = false := by simp; omega
          have t1' : decide (k < l.length) = false := by simp; omega
          have HE : Hid (whyG [] l = (0, -1)) := by rw [HY.out, List.drop_of_length_le (by omega)]; rfl
          go_wp2
          go_ret2
          exact whys (by rw [HV.out, HE.out]) HK.out.below
    · have HW2 := Lib.hid (fun W => within (l.length : Int) 1 16 W (b := false) (by simp [withinB]; omega))
      have HV := Lib.hid (whyF_count hb hl)
      clear ht hb hl
      go_enter Try.func27, Try.ntmps27
      go_wp2_with (fail)
      with_reducible refine (HW1.out _).mono ?_
      rintro e w' ⟨rfl, rfl⟩
      go_wp2_with (fail)
      with_reducible refine (HW2.out _).mono ?_
      rintro e w' ⟨rfl, rfl⟩
      go_wp2
      go_ret2
      exact whys HV.out (below_new _ _)
  · have HW1 := Lib.hid (fun W => within b 1 1000 W (b := false) (by simp [withinB]; omega))
    have HV := Lib.hid (whyF_burst (l := l) hb)
    clear ht hb
    go_enter Try.func27, Try.ntmps27
    go_wp2_with (fail)
    with_reducible refine (HW1.out _).mono ?_
    rintro e w' ⟨rfl, rfl⟩
    go_wp2
    go_ret2
    exact whys HV.out (below_new _ _)

set_option maxHeartbeats 1000000 in
theorem right (b : Int) (l : List Tk) (a : Option Addr) (cap : Nat) {w : World} (hm : l.length ≤ maxLen) (ht : Tasks w a cap l) :
    Calls Try.prog 21 #[.agg #[.int .i64 b, .slice a l.length cap]] w (Tells ((whyF b l).1 == 0) w) := by
  have KC := Lib.hid (why b l a cap (w := w.alloc (.cells #[.int .i64 b, .slice a l.length cap] 24)) hm (ht.below (Nat.le_refl _) (below_new _ _)))
  clear ht hm
  generalize whyF b l = p at KC ⊢
  go_enter Try.func21, Try.ntmps21
  go_wp2_with (fail)
  with_reducible refine KC.out.mono ?_
  rintro e w1 ⟨rfl, hb1⟩
  have H1 := Lib.hid hb1
  clear hb1
  go_wp2
  go_ret
  exact ⟨rfl, (below_new _ _).trans (H1.out.mono (below_new _ _).size)⟩
end Go.Proofs.Ytklnokhabomnfaa
