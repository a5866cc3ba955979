/- Places laid in order: each goes ahead as far as it may. -/
import Derived.Test.YtklnokhabomnfaaCm
import Derived.BigRegion
import Derived.RegionTactic
namespace Go.Proofs.Ytklnokhabomnfaa
open Go.RowKit

def keyP (l : List Tk) (i : Nat) : Int := match l[i]? with
  | some t => t.Prio
  | none => 0
theorem keyP_at {l : List Tk} {i : Nat} {t : Tk} (h : l[i]? = some t) : keyP l i = t.Prio := by unfold keyP; rw [h]
theorem cmp_neg {x y : Int} (h : x < y) : decide (cmpV x y < 0) = true := by simp [cmpV, h]
theorem cmp_not {x y : Int} (h : ¬ x < y) : decide (cmpV x y < 0) = false := by
  unfold cmpV
  rw [if_neg h]
  split <;> simp
/-- All but block g is as it was; the row there is in order. -/
def Sorted (l : List Tk) (g : Nat) (w : World) (e : Ending) (w' : World) : Prop :=
  ∃ o : Nat → Nat, e = .returned (.tuple #[]) ∧ Turns (fun k => k = g) w w' ∧ Nums w' g l.length o ∧ Places l.length o ∧ Order (keyP l) o l.length
def SortRel (l : List Tk) (g : Nat) (w : World) (i : Value) (W : World) : Prop :=
  ∃ (k : Nat) (o : Nat → Nat), 1 ≤ k ∧ k ≤ l.length ∧ i = .int .i64 (k : Int) ∧ Turns (fun k => k = g) w W ∧ Nums W g l.length o ∧ Places l.length o ∧ Order (keyP l) o k
def SinkRel (l : List Tk) (g i : Nat) (w : World) (j : Value) (W : World) : Prop :=
  ∃ (k : Nat) (o : Nat → Nat), k ≤ i ∧ j = .int .i64 (k : Int) ∧ Turns (fun k => k = g) w W ∧ Nums W g l.length o ∧ Places l.length o ∧ Nearly (keyP l) o k i

set_option maxRecDepth 100000 in
set_option maxHeartbeats 4000000 in
theorem insertion (b : Int) (l : List Tk) (a : Option Addr) (cap s g : Nat) (o : Nat → Nat) {w0 w : World} (hn : 1 ≤ l.length) (hm : l.length ≤ 1000) (ht : Tasks w0 a cap l) (hb : Below w0.heap.size w0 w) (hg : w0.heap.size ≤ g)
    (hs : Lies w s 24 #[.int .i64 b, .slice a l.length cap]) (hsg : s ≠ g) (hI : Nums w g l.length o) (hp : Places l.length o) :
    Calls Try.prog 56 #[.slice (some ⟨g, 0, none⟩) l.length l.length, .int .i64 0, .int .i64 (l.length : Int), .func (.func 29) #[] #[.pointer (some ⟨s, 0, none⟩)]] w (Sorted l g w) := by
  have HC : Hid (∀ W, Turns (fun k => k = g) w W → ∀ (i j : Nat) (ti tj : Tk), l[i]? = some ti → l[j]? = some tj → Calls Try.prog 29 #[.int .i64 (i : Int), .int .i64 (j : Int), .pointer (some ⟨s, 0, none⟩)] W (Saw (.int .i64 (cmpV ti.Prio tj.Prio)) W)) := fun W hW i j ti tj hi hj =>
    order1 b l a cap s i j (ht.below (Nat.le_refl _) (hb.trans (hW.below (fun k hk => by omega) hb.size))) (hs.turns hW hsg) hi hj
  have HI := Lib.hid hI
  have HP := Lib.hid hp
  clear ht hb hs hI hp
  go_enter Try.func56, Try.ntmps56
  go_wp2
  go_loopw [8] (fun i W => SortRel l g w i W) (fun i _ => l.length - (intOf i).toNat)
  case atStart => exact ⟨1, o, by omega, by omega, rfl, Turns.refl _ _, HI.out, HP.out, fun a b _ _ => by omega⟩
  case round =>
    obtain ⟨i, oi, hi1, hi, rfl, htu, hIi, hPi, hOi⟩ := hrel
    have HTU := Lib.hid htu
    have HII := Lib.hid hIi
    have HPI := Lib.hid hPi
    have HOI := Lib.hid hOi
    clear htu hIi hPi hOi HI HP
    by_cases hlt : i < l.length
    · have t1 : decide ((i : Int) < (l.length : Int)) = true := by simp; omega
      go_wp2
      go_loopw [9] (fun j W => SinkRel l g i w j W) (fun j _ => (intOf j).toNat)
      case atStart => exact ⟨i, oi, Nat.le_refl _, rfl, HTU.out, HII.out, HPI.out, Nearly.start HOI.out⟩
      case round =>
        obtain ⟨j, oj, hj, rfl, htu, hIj, hPj, hNj⟩ := hrel
        have HTU := Lib.hid htu
        have HIJ := Lib.hid hIj
        have HPJ := Lib.hid hPj
        have HNJ := Lib.hid hNj
        clear htu hIj hPj hNj HII HPI HOI
        by_cases hj0 : 0 < j
        · have t2 : decide ((0 : Int) < (j : Int)) = true := by simp; omega
          obtain ⟨p, hpj⟩ : ∃ p, p = j - 1 := ⟨_, rfl⟩
          have q1 : (j : Int) < (l.length : Int) := by omega
          have q2 : (0 : Int) ≤ (j : Int) := by omega
          have q3 : (p : Int) < (l.length : Int) := by omega
          have q4 : (0 : Int) ≤ (p : Int) := by omega
          have hw : IntKind.i64.wrap ((j : Int) - 1) = (p : Int) := by rw [IntWalk.i64_in _ ⟨by omega, by omega⟩]; omega
          have q5 : j < l.length := by omega
          have q6 : p < l.length := by omega
          have HPJE := Lib.hid hpj
          have cj := HIJ.out.cell (i := j) (by omega)
          have cp := HIJ.out.cell (i := p) (by omega)
          have fj := HIJ.out.thawed j
          have fp := HIJ.out.thawed p
          have hx := List.getElem?_eq_getElem (HPJ.out.1 j q5)
          have hy := List.getElem?_eq_getElem (HPJ.out.1 p q6)
          have HKJ := Lib.hid (keyP_at hx)
          have HKP := Lib.hid (keyP_at hy)
          have KC : Hid (∀ n, Calls Try.prog 29 #[.int .i64 (oj j : Int), .int .i64 (oj p : Int), .pointer (some ⟨s, 0, none⟩)] (wr.drewN n) (Saw (.int .i64 (cmpV (keyP l (oj j)) (keyP l (oj p)))) (wr.drewN n))) := fun n => by
            rw [HKJ.out, HKP.out]; exact HC.out _ (HTU.out.drewN n) _ _ _ _ hx hy
          clear hx hy hpj
          by_cases hless : keyP l (oj j) < keyP l (oj p)
          · have hd := cmp_neg hless
            have HLESS := Lib.hid hless
            generalize cmpV (keyP l (oj j)) (keyP l (oj p)) = r at hd KC
            clear hless
            go_wp2
            go_quiet (exact Calls.quiet_of (KC.out _))
            go_wp2
            generalize hwq : wr.drewN nq = wq
            have cj' : wq.cell? ⟨g, j, none⟩ = some (.int .i64 (oj j : Int)) := by rw [← hwq]; exact cj
            have cp' : wq.cell? ⟨g, p, none⟩ = some (.int .i64 (oj p : Int)) := by rw [← hwq]; exact cp
            have fj' : wq.frozen? ⟨g, j, none⟩ = false := by rw [← hwq]; exact fj
            have fp' : wq.frozen? ⟨g, p, none⟩ = false := by rw [← hwq]; exact fp
            have HIQ : Hid (Nums wq g l.length oj) := by rw [← hwq]; exact HIJ.out
            have HTQ : Hid (Turns (fun k => k = g) w wq) := by rw [← hwq]; exact HTU.out.drewN nq
            have cpj : (wq.setCell ⟨g, j, none⟩ (.int .i64 (oj p : Int))).cell? ⟨g, p, none⟩ = some (.int .i64 (oj p : Int)) := by
              have := (HIQ.out.put j (oj p)).cell (i := p) (by omega)
              rw [this]; unfold upd; rw [if_neg (by have := HPJE.out; omega)]
            have fpj : (wq.setCell ⟨g, j, none⟩ (.int .i64 (oj p : Int))).frozen? ⟨g, p, none⟩ = false := (HIQ.out.put j (oj p)).thawed p
            clear hwq
            have HIS : Hid (Nums ((wq.setCell ⟨g, j, none⟩ (.int .i64 (oj p : Int))).setCell ⟨g, p, none⟩ (.int .i64 (oj j : Int))) g l.length (swp oj j)) := by
              have := (HIQ.out.put j (oj p)).put p (oj j)
              rw [HPJE.out] at this ⊢
              exact this
            have HTS : Hid (Turns (fun k => k = g) w ((wq.setCell ⟨g, j, none⟩ (.int .i64 (oj p : Int))).setCell ⟨g, p, none⟩ (.int .i64 (oj j : Int)))) := (HTQ.out.setCell (a := ⟨g, j, none⟩) (.inr rfl) _).setCell (a := ⟨g, p, none⟩) (.inr rfl) _
            have HPS := Lib.hid (HPJ.out.swap hj0 (by omega))
            have HNS := Lib.hid (HNJ.out.swap hj0 hj (by have := HLESS.out; rw [HPJE.out] at this; exact this))
            go_region
            go_wp2
            go_roundw
            case rel => exact ⟨p, swp oj j, by have := HPJE.out; omega, rfl, HTS.out.drewN 1, HIS.out.drewN 1, HPS.out, by rw [HPJE.out]; exact HNS.out⟩
            case measure => have := HPJE.out; simp [intOf]; omega
          · have hd := cmp_not hless
            have HST := Lib.hid (HNJ.out.ends hj (.inr (by have h2 := hless; rw [HPJE.out] at h2; omega)))
            generalize cmpV (keyP l (oj j)) (keyP l (oj p)) = r at hd KC
            clear hless
            go_wp2
            go_quiet (exact Calls.quiet_of (KC.out _))
            go_wp2
            go_roundw
            case rel => exact ⟨i + 1, oj, by omega, by omega, by go_num, HTU.out.drewN _, HIJ.out.drewN _, HPJ.out, HST.out⟩
            case measure => simp [intOf]; omega
        · have t2 : decide ((0 : Int) < (j : Int)) = false := by simp; omega
          have t2' : decide (0 < j) = false := by simp; omega
          obtain rfl : j = 0 := by omega
          have HST := Lib.hid (HNJ.out.ends hj (.inl rfl))
          simp only [Int.cast_ofNat_Int] at t2 ⊢
          go_wp2
          go_quiet (fail)
          go_wp2
          go_roundw
          case rel => exact ⟨i + 1, oj, by omega, by omega, by go_num, HTU.out.drewN _, HIJ.out.drewN _, HPJ.out, HST.out⟩
          case measure => simp [intOf]; omega
    · have t1 : decide ((i : Int) < (l.length : Int)) = false := by simp; omega
      have t1' : decide (i < l.length) = false := by simp; omega
      obtain rfl : i = l.length := by omega
      go_wp2
      go_end0
      exact ⟨oi, rfl, HTU.out, HII.out, HPI.out, HOI.out⟩

set_option maxHeartbeats 1000000 in
theorem stable (b : Int) (l : List Tk) (a : Option Addr) (cap s g : Nat) (o : Nat → Nat) {w0 w : World} (hn : 1 ≤ l.length) (hm : l.length ≤ 16) (ht : Tasks w0 a cap l) (hb : Below w0.heap.size w0 w) (hg : w0.heap.size ≤ g)
    (hs : Lies w s 24 #[.int .i64 b, .slice a l.length cap]) (hsg : s ≠ g) (hI : Nums w g l.length o) (hp : Places l.length o) :
    Calls Try.prog 36 #[.slice (some ⟨g, 0, none⟩) l.length l.length, .int .i64 (l.length : Int), .func (.func 29) #[] #[.pointer (some ⟨s, 0, none⟩)]] w (Sorted l g w) := by
  have KC := Lib.hid (insertion b l a cap s g o hn (by omega) ht hb hg hs hsg hI hp)
  have t1 : decide ((20 : Int) ≤ (l.length : Int)) = false := by simp; omega
  have t2 : decide ((20 : Int) < (l.length : Int)) = false := by simp; omega
  clear ht hb hs hI hp
  go_enter Try.func36, Try.ntmps36
  go_wp2
  go_loopw [7, 8] (fun x y W => x = .int .i64 0 ∧ y = .int .i64 20 ∧ w = W) (fun _ _ _ => 0)
  case atStart => exact ⟨rfl, rfl, rfl⟩
  case round =>
    obtain ⟨rfl, rfl, rfl⟩ := hrel
    go_wp2_with (fail)
    with_reducible refine KC.out.mono ?_
    rintro e w1 ⟨o1, rfl, h1, h2, h3, h4⟩
    have H1 := Lib.hid h1
    have H2 := Lib.hid h2
    have H3 := Lib.hid h3
    have H4 := Lib.hid h4
    clear h1 h2 h3 h4
    go_wp2
    go_loopw [6] (fun x W => x = .int .i64 20 ∧ w1 = W) (fun _ _ => 0)
    case atStart => exact ⟨rfl, rfl⟩
    case round =>
      obtain ⟨rfl, rfl⟩ := hrel
      go_wp2
      go_end0
      exact ⟨o1, rfl, H1.out, H2.out, H3.out, H4.out⟩

set_option maxHeartbeats 1000000 in
theorem sortStable (b : Int) (l : List Tk) (a : Option Addr) (cap s g : Nat) (o : Nat → Nat) {w0 w : World} (hn : 1 ≤ l.length) (hm : l.length ≤ 16) (ht : Tasks w0 a cap l) (hb : Below w0.heap.size w0 w) (hg : w0.heap.size ≤ g)
    (hs : Lies w s 24 #[.int .i64 b, .slice a l.length cap]) (hsg : s ≠ g) (hI : Nums w g l.length o) (hp : Places l.length o) :
    Calls Try.prog 28 #[.slice (some ⟨g, 0, none⟩) l.length l.length, .func (.func 29) #[] #[.pointer (some ⟨s, 0, none⟩)]] w (Sorted l g w) := by
  have KC := Lib.hid (stable b l a cap s g o hn hm ht hb hg hs hsg hI hp)
  clear ht hb hs hI hp
  go_enter Try.func28, Try.ntmps28
  go_wp2_with (fail)
  with_reducible refine KC.out.mono ?_
  rintro e w1 ⟨o1, rfl, h1, h2, h3, h4⟩
  have H1 := Lib.hid h1
  have H2 := Lib.hid h2
  have H3 := Lib.hid h3
  have H4 := Lib.hid h4
  clear h1 h2 h3 h4
  go_wp2
  go_end0
  exact ⟨o1, rfl, H1.out, H2.out, H3.out, H4.out⟩
end Go.Proofs.Ytklnokhabomnfaa
