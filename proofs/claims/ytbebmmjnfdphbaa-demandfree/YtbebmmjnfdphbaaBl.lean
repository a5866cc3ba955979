/- Loads: of a task, of a set. -/
import Derived.Test.YtbebmmjnfdphbaaBr
import Derived.Test.YtbebmmjnfdphbaaMk
namespace Go.Proofs.Ytbebmmjnfdphbaa
open Go.RowKit

/-- A task's whole demand, by the mode. -/
def wholeV (t : Tk) : Int := if t.Mode = 1 then t.C + (t.C + t.Seg - 1) / t.Seg * t.Cost else t.C + t.Cost
theorem whole_eq {t : Tk} {s : Int} {n : Nat} (h : Fine t) (hw : Ways t t.C n s) : t.C + (n : Int) * t.Cost = wholeV t := by
  unfold wholeV
  by_cases hm : t.Mode = 1
  · have hs : 1 ≤ t.Seg := by rcases h.again with h1 | h1 <;> omega
    have h2 := hw.cuts
    rw [hw.retry hm] at h2
    obtain ⟨k, hk, hc⟩ := cuts_ceil h.nums.1 hs
    rw [if_pos hm, ← hk, hc.same h2]
  · rw [if_neg hm, (hw.whole hm).1]
    simp
theorem whole_nums {t : Tk} (h : Fine t) : t.C ≤ wholeV t ∧ wholeV t ≤ 1049624576 := by
  obtain ⟨n, s, hw⟩ := ways_of h h.nums.1
  rw [← whole_eq h hw]
  obtain ⟨b1, b2, b3, b4, _, _⟩ := h.nums
  have hn := hw.cuts.few
  have p0 : 0 ≤ (n : Int) * t.Cost := Int.mul_nonneg (by omega) b3
  have p1 : (n : Int) * t.Cost ≤ 1048576 * 1000 := Int.mul_le_mul (by omega) b4 b3 (by omega)
  omega
theorem wholeAny {t : Tk} (h : Fine t) (w : World) : Calls Try.prog 16 #[aggK t] w (Gives (.int .i64 (wholeV t)) w) := by
  obtain ⟨n, s, hw⟩ := ways_of h h.nums.1
  rw [← whole_eq h hw]
  exact whole h hw w
def loadV (t : Tk) : Int := (1000 * wholeV t + t.T - 1) / t.T
theorem load_nums {t : Tk} (h : Fine t) : 0 ≤ loadV t ∧ loadV t ≤ 1099511627776 := by
  have h1 := whole_nums h
  obtain ⟨b1, b2, b3, b4, b5, b6⟩ := h.nums
  unfold loadV
  refine ⟨Int.ediv_nonneg (by omega) (by omega), ?_⟩
  exact Int.le_trans (Int.ediv_le_self _ (by omega)) (by omega)
set_option maxHeartbeats 2000000 in
theorem load {t : Tk} (h : Fine t) (w : World) : Calls Try.prog 24 #[aggK t] w (Gives (.int .i64 (loadV t)) w) := by
  obtain ⟨b1, b2, b3, b4, b5, b6⟩ := h.nums
  obtain ⟨w1, w2⟩ := whole_nums h
  have KW := Lib.hid (fun W => wholeAny h W)
  have HL := Lib.hid (show loadV t = (wholeV t * 1000 + t.T - 1) / t.T by unfold loadV; rw [Int.mul_comm])
  rw [HL.out]
  have KM := Lib.hid (fun W => mul_small (wholeV t) 1000 W (by omega) (by omega) (by omega) (by omega))
  have KC := Lib.hid (fun W => ceil_small (wholeV t * 1000) t.T W (by omega) (by omega) b5 b6)
  have HB := Lib.hid (Box.made w t)
  simp only [boxT] at HB
  simp only [aggK] at KW ⊢
  clear HL h
  generalize wholeV t = v at KW KM KC w1 w2 ⊢
  go_enter Try.func24, Try.ntmps24
  go_wp2_with (fail)
  with_reducible refine (KW.out _).mono ?_
  rintro e w1 ⟨rfl, hb1⟩
  have HB1 := Lib.hid (HB.out.tells hb1)
  clear hb1
  obtain ⟨y0, y1, y2, y3, y4, y5, y6, y7, y8, y9, y10⟩ := HB1.out.cells
  clear y0 y2 y3 y4 y5 y6 y7 y8 y9 y10
  go_wp2_with (fail)
  with_reducible refine (KM.out _).mono ?_
  rintro e w2 ⟨rfl, rfl⟩
  go_wp2_with (fail)
  with_reducible refine (KC.out _).mono ?_
  rintro e w2 ⟨rfl, rfl⟩
  go_wp2
  go_ret
  exact ⟨rfl, HB1.out.below⟩

/-- The first k tasks' loads, together. -/
def loadsV (l : List Tk) (k : Nat) : Int := ((l.take k).map loadV).sum
theorem loads_next {l : List Tk} {k : Nat} {t : Tk} (h : l[k]? = some t) : loadsV l (k + 1) = loadsV l k + loadV t := by
  unfold loadsV
  rw [List.take_add_one, h]; simp
theorem loads_nums {l : List Tk} (h : ∀ t ∈ l, Fine t) : ∀ k, k ≤ l.length → 0 ≤ loadsV l k ∧ loadsV l k ≤ (k : Int) * 1099511627776
  | 0, _ => by simp [loadsV]
  | k + 1, hk => by
    have hx : l[k]? = some l[k] := List.getElem?_eq_getElem (by omega)
    have h1 := loads_nums h k (by omega)
    have h2 := load_nums (h _ (List.getElem_mem (by omega : k < l.length)))
    rw [loads_next hx]
    omega
structure SetBox (w : World) (b : Int) (a : Option Addr) (n cap : Nat) (W : World) : Prop where
  below : Below w.heap.size w W
  lies : Lies W w.heap.size 35 #[.int .i64 b, .slice a n cap]
section
variable {w W W' : World} {b : Int} {a : Option Addr} {n cap : Nat}
theorem SetBox.made (w : World) (b : Int) (a : Option Addr) (n cap : Nat) : SetBox w b a n cap (w.alloc (.cells #[.int .i64 b, .slice a n cap] 35)) := ⟨below_new _ _, Lies.made _ _ _⟩
theorem SetBox.tells (h : SetBox w b a n cap W) (hb : Below W.heap.size W W') : SetBox w b a n cap W' := ⟨h.below.trans (hb.mono h.below.size), h.lies.below hb h.lies.lt⟩
theorem SetBox.drewN (h : SetBox w b a n cap W) (k : Nat) : SetBox w b a n cap (W.drewN k) := ⟨below_drewN h.below k, h.lies.drewN k⟩
theorem SetBox.cells (h : SetBox w b a n cap W) : W.cell? ⟨w.heap.size, 0, none⟩ = some (.int .i64 b) ∧ W.cell? ⟨w.heap.size, 1, none⟩ = some (.slice a n cap) := ⟨h.lies.cell 0, h.lies.cell 1⟩
end
def LoadRel (b : Int) (l : List Tk) (a : Option Addr) (cap : Nat) (w : World) (s i : Value) (W : World) : Prop :=
  ∃ k : Nat, k ≤ l.length ∧ i = .int .i64 (k : Int) ∧ s = .int .i64 (loadsV l k) ∧ SetBox w b a l.length cap W
set_option maxHeartbeats 4000000 in
theorem loads (b : Int) {l : List Tk} {a : Option Addr} {cap : Nat} {w : World} (hl : l.length ≤ 30) (hf : ∀ t ∈ l, Fine t) (ht : Tasks w a cap l) :
    Calls Try.prog 19 #[.agg #[.int .i64 b, .slice a l.length cap]] w (Gives (.tuple #[.int .i64 (loadsV l l.length), .int .i64 (l.length : Int)]) w) := by
  have HT := Lib.hid ht
  have HF := Lib.hid hf
  have HN := Lib.hid (loads_nums hf)
  have HB := Lib.hid (SetBox.made w b a l.length cap)
  clear ht hf
  go_enter Try.func19, Try.ntmps19
  go_wp2
  go_loopw [4, 10] (fun s i W => LoadRel b l a cap w s i W) (fun _ i _ => l.length - (intOf i).toNat)
  case atStart => exact ⟨0, by omega, rfl, rfl, HB.out⟩
  case round =>
    obtain ⟨k, hk, rfl, rfl, hs⟩ := hrel
    have HS := Lib.hid hs
    clear hs
    by_cases hlt : k < l.length
    · have t1 : decide ((k : Int) < (l.length : Int)) = true := by simp; omega
      have hx : l[k]? = some l[k] := List.getElem?_eq_getElem hlt
      have HTW := Lib.hid (HT.out.below (Nat.le_refl _) HS.out.below)
      obtain ⟨bb, off, rfl, hbl, x0, x1, x2, x3, x4, x5, x6, x7, x8, x9, x10⟩ := HTW.out.cells hx
      have hfx := HF.out _ (List.getElem_mem hlt)
      have KL := Lib.hid (fun W => load hfx W)
      obtain ⟨n1, n2⟩ := load_nums hfx
      obtain ⟨m1, m2⟩ := HN.out k hk
      have HX := Lib.hid (loads_next hx)
      clear hfx hx
      generalize l[k] = x at *
      have HBX := Lib.hid (Lies.made wr 23 (boxT x))
      simp only [boxT] at HBX
      have HSX := Lib.hid (HS.out.tells (below_new wr (.cells (boxT x) 23)))
      simp only [boxT] at HSX
      simp only [aggK] at KL
      generalize loadV x = lv at *
      generalize loadsV l k = sv at *
      go_wp2_with (fail)
      with_reducible refine (KL.out _).mono ?_
      rintro e w1 ⟨rfl, hb1⟩
      have HS1 := Lib.hid (HSX.out.tells hb1)
      clear hb1
      go_wp2
      go_roundw
      case rel => exact ⟨k + 1, by omega, by go_num, by rw [HX.out], HS1.out⟩
      case measure => simp [intOf]; omega
    · have t1 : decide ((k : Int) < (l.length : Int)) = false := by simp; omega
      obtain rfl : k = l.length := by omega
      obtain ⟨y0, y1⟩ := HS.out.cells
      generalize loadsV l l.length = sv at *
      go_wp2
      go_region
      all_goals
        go_wp2
        go_ret2
        exact ⟨rfl, below_drewN HS.out.below _⟩
end Go.Proofs.Ytbebmmjnfdphbaa
