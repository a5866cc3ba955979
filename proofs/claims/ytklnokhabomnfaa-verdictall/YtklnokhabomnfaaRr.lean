/- The statements' own: the response time, tried one by one; whether a set is small; a place and a gap. -/
import Derived.Test.YtklnokhabomnfaaRn
namespace Go.Proofs.Ytklnokhabomnfaa
open Go.RowKit

def TryRel (b D : Int) (F : Int → Int) (n0 : Nat) (a : Option Addr) (cap : Nat) (w : World) (v : Value) (W : World) : Prop :=
  ∃ n : Nat, v = .int .i64 (n : Int) ∧ (n : Int) ≤ D + 1 ∧ (∀ x : Int, 0 ≤ x → x < n → F x ≠ x) ∧ SetBox w b a n0 cap W
set_option maxRecDepth 100000 in
set_option maxHeartbeats 4000000 in
theorem refResponse (b g : Int) {l : List Tk} {a : Option Addr} {cap k : Nat} {o : Tk} {v : Int} {ok : Bool} {w : World} (hl : l.length ≤ 20) (hf : ∀ t ∈ l, Fine t) (ht : Tasks w a cap l) (ho : l[k]? = some o) (hd : Dist l) (b0 : 1 ≤ b) (b1 : b ≤ 1000) (g0 : 1 ≤ g) (g1 : g ≤ 1049576)
    (hR : Resp (nextV b l o g) o.D v ok) :
    Calls Try.prog 24 #[.agg #[.int .i64 b, .slice a l.length cap], .int .i64 (k : Int), .int .i64 g] w (Gives (.tuple #[.int .i64 v, .bool ok]) w) := by
  have hk := (List.getElem?_eq_some_iff.1 ho).1
  have HT := Lib.hid ht
  have HO := Lib.hid ho
  have HB := Lib.hid (SetBox.made w b a l.length cap)
  have hfo := hf o (List.mem_of_getElem? ho)
  have HM := Lib.hid (next_mono (o := o) (g := g) b0 b1 g0 hf)
  have HN0 := Lib.hid (show 0 ≤ nextV b l o g 0 by have := next_range (w := 0) (g := g) (by omega) (by omega) b0 b1 g0 hf hfo (by omega); omega)
  have hD : 1 ≤ o.D ∧ o.D ≤ 1048576 := by obtain ⟨h1, h2, h3, h4, h5, h6⟩ := hfo.times; omega
  have HR := Lib.hid hR
  have KN := Lib.hid (fun x W (x0 : 0 ≤ x) (x1 : x ≤ 1048576) (hb : Below w.heap.size w W) => refNext b g x hl hf (HT.out.below (Nat.le_refl _) hb) ho hd b0 b1 g0 g1 x0 x1)
  have q1 : (0 : Int) ≤ (k : Int) := by omega
  have q2 : (k : Int) < (l.length : Int) := by omega
  clear ht hf ho hR hfo hd
  generalize nextV b l o g = F at *
  go_enter Try.func24, Try.ntmps24
  go_wp2
  go_loopw [8] (fun v W => TryRel b o.D F l.length a cap w v W) (fun v _ => (o.D + 1 - intOf v).toNat)
  case atStart => exact ⟨0, rfl, by omega, fun x h1 h2 => by omega, HB.out⟩
  case round =>
    obtain ⟨n, rfl, hn, hno, hs⟩ := hrel
    have HS := Lib.hid hs
    have HNO := Lib.hid hno
    clear hs hno
    obtain ⟨s0, s1⟩ := HS.out.cells
    have HT2 := Lib.hid (HT.out.below (Nat.le_refl _) HS.out.below)
    obtain ⟨bb, off, rfl, hbl, y0, y1, y2, y3, y4, y5, y6, y7, y8, y9, y10⟩ := HT2.out.cells HO.out
    clear y0 y1 y3 y4 y5 y6 y7 y8 y9 y10
    have HC := Lib.hid (climb_step HM.out HN0.out n HNO.out)
    by_cases h1 : (n : Int) ≤ o.D
    · have t1 : decide ((n : Int) ≤ o.D) = true := decide_eq_true h1
      have KN1 := Lib.hid (KN.out n _ (by omega) (by omega) HS.out.below)
      by_cases h2 : F n = n
      · obtain ⟨e1, e2⟩ := HR.out.same (HC.out.found h2 h1)
        subst e2
        rw [h2] at KN1
        have HE := Lib.hid e1
        clear h2 e1
        go_wp2_with (fail)
        with_reducible refine KN1.out.mono ?_
        rintro e w2 ⟨rfl, hb2⟩
        have HS2 := Lib.hid (HS.out.tells hb2)
        clear hb2
        go_wp2
        go_ret2
        exact ⟨by rw [HE.out]; rfl, HS2.out.below⟩
      · have HNE := Lib.hid h2
        generalize hy : F n = y at KN1 h2
        have t2 : (y == (n : Int)) = false := beq_eq_false_iff_ne.2 h2
        clear hy h2
        go_wp2_with (fail)
        with_reducible refine KN1.out.mono ?_
        rintro e w2 ⟨rfl, hb2⟩
        have HS2 := Lib.hid (HS.out.tells hb2)
        clear hb2
        go_wp2
        go_roundw
        case rel => exact ⟨n + 1, by go_num, by omega, fun x x0 x1 => by
          by_cases hx : x < n
          · exact HNO.out x x0 hx
          · have : x = (n : Int) := by omega
            subst this; exact HNE.out, HS2.out⟩
        case measure => simp [intOf]; omega
    · have t1 : decide ((n : Int) ≤ o.D) = false := decide_eq_false h1
      have HE := Lib.hid (HR.out.same (.inr ⟨rfl, rfl, fun x x0 x1 => HC.out.2.2 x x0 (by omega)⟩ : Resp F o.D 0 false))
      go_wp2
      go_ret2
      exact ⟨by rw [HE.out.1, HE.out.2]; rfl, HS.out.below⟩

/-- Few tasks, short deadlines. -/
def smallL (l : List Tk) : Prop := l.length ≤ 16 ∧ ∀ t ∈ l, t.D ≤ 3000
def SmallRel (b : Int) (l : List Tk) (a : Option Addr) (cap : Nat) (w : World) (i : Value) (W : World) : Prop :=
  ∃ k : Nat, k ≤ min l.length 20 ∧ i = .int .i64 (k : Int) ∧ W = w.alloc (.cells #[.int .i64 b, .slice a l.length cap] 24) ∧ ∀ j t, j < k → l[j]? = some t → t.D ≤ 3000
/-- 'true' of small ones alone. -/
def Smalls (l : List Tk) (w : World) (e : Ending) (w' : World) : Prop := ∃ b, e = .returned (.bool b) ∧ Below w.heap.size w w' ∧ (b = true → smallL l)
set_option maxHeartbeats 2000000 in
theorem small (b : Int) (l : List Tk) (a : Option Addr) (cap : Nat) {w : World} (hm : l.length ≤ maxLen) (ht : Tasks w a cap l) :
    Calls Try.prog 12 #[.agg #[.int .i64 b, .slice a l.length cap]] w (Smalls l w) := by
  unfold maxLen at hm
  have HT := Lib.hid (ht.below (Nat.le_refl _) (below_new w (.cells #[.int .i64 b, .slice a l.length cap] 24)))
  have HB0 := Lib.hid (below_new w (.cells #[.int .i64 b, .slice a l.length cap] 24))
  clear ht
  go_enter Try.func12, Try.ntmps12
  go_wp2
  go_loopw [3] (fun i W => SmallRel b l a cap w i W) (fun i _ => 40 - (intOf i).toNat)
  case atStart => exact ⟨0, by omega, rfl, rfl, fun j _ hj => by omega⟩
  case round =>
    obtain ⟨k, hk, rfl, rfl, hall⟩ := hrel
    have HA := Lib.hid hall
    clear hall
    by_cases hlt : k < l.length
    · have t1 : decide ((k : Int) < (l.length : Int)) = true := by simp; omega
      by_cases h4 : k < 20
      · have t2 : decide ((k : Int) < 20) = true := by simp; omega
        have hx : l[k]? = some l[k] := List.getElem?_eq_getElem hlt
        have HX := Lib.hid hx
        obtain ⟨bb, off, rfl, hbl, x0, y1, x2, y3, y4, y5, y6, y7, y8, y9, y10⟩ := HT.out.cells hx
        clear hx y1 y3 y4 y5 y6 y7 y8 y9 y10
        generalize l[k] = x at x0 x2 HX
        obtain ⟨y, hy⟩ : ∃ y, y = x.name := ⟨_, rfl⟩
        rw [← hy] at x0
        clear hy
        have q1 : (0 : Int) ≤ (k : Int) := by omega
        have q2 : (k : Int) < (l.length : Int) := by omega
        by_cases h5 : 3000 < x.D
        · have t4 : decide (3000 < x.D) = true := decide_eq_true h5
          go_wp2
          go_ret
          exact ⟨false, rfl, HB0.out, fun h => by cases h⟩
        · have t4 : decide (3000 < x.D) = false := decide_eq_false h5
          by_cases h6 : 60 < y.size
          · have t3 : decide ((60 : Int) < (y.size : Int)) = true := by simp; omega
            go_wp2
            go_ret
            exact ⟨false, rfl, HB0.out, fun h => by cases h⟩
          · have t3 : decide ((60 : Int) < (y.size : Int)) = false := by simp; omega
            have HA1 : Hid (∀ j s, j < k + 1 → l[j]? = some s → s.D ≤ 3000) := fun j s hj hs => by
              by_cases hjk : j = k
              · rw [hjk, HX.out] at hs
                cases hs
                omega
              · exact HA.out j s (by omega) hs
            go_wp2
            go_roundw
            case rel => exact ⟨k + 1, by omega, by go_num, rfl, HA1.out⟩
            case measure => simp [intOf]; omega
      · have t2 : decide ((k : Int) < 20) = false := by simp; omega
        have t3 : decide ((l.length : Int) ≤ 16) = false := by simp; omega
        go_wp2
        go_ret
        exact ⟨false, rfl, HB0.out, fun h => by cases h⟩
    · have t1 : decide ((k : Int) < (l.length : Int)) = false := by simp; omega
      have t1' : decide (k < l.length) = false := by simp; omega
      by_cases h3 : l.length ≤ 16
      · have t3 : decide ((l.length : Int) ≤ 16) = true := by simp; omega
        have HF := Lib.hid (show smallL l from ⟨h3, fun s hs => by
          obtain ⟨j, hj⟩ := List.getElem?_of_mem hs
          have := (List.getElem?_eq_some_iff.1 hj).1
          exact HA.out j s (by omega) hj⟩)
        go_wp2
        go_ret
        exact ⟨true, rfl, HB0.out, fun _ => HF.out⟩
      · have t3 : decide ((l.length : Int) ≤ 16) = false := by simp; omega
        go_wp2
        go_ret
        exact ⟨false, rfl, HB0.out, fun h => by cases h⟩
end Go.Proofs.Ytklnokhabomnfaa
