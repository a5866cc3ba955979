/- A guard that the call made; whether distances may be; the statements' own fixed answers. -/
import Derived.Test.YtllihehkceaibaaNw
namespace Go.Proofs.Ytllihehkceaibaa
open Go.RowKit

/-- In W, behind w0, there is a guard that w0 had not; what w0 had is as it was. -/
structure Has (w0 : World) (p g K : Nat) (gs : List Gt) (W : World) : Prop where
  grd : Grd W p g K gs
  inP : w0.heap.size ≤ p
  inG : w0.heap.size ≤ g
  below : Below w0.heap.size w0 W
/-- It answers v, and the guard has the gates gs; nothing else has turned. -/
def Then (v : Value) (w0 : World) (p g K : Nat) (gs : List Gt) (W : World) (e : Ending) (W' : World) : Prop := e = .returned v ∧ Has w0 p g K gs W' ∧ Turns (fun k => k = g) W W'
/-- A new guard of these distances. -/
def HasNew (w0 : World) (l : List Int) (W : World) (e : Ending) (W' : World) : Prop := ∃ p g, e = .returned (.tuple #[.pointer (some ⟨p, 0, none⟩), .int .i64 0]) ∧ Has w0 p g 0 (l.map freshG) W' ∧ W.heap.size ≤ p ∧ W.heap.size ≤ g ∧ Below W.heap.size W W'
section
variable {w0 W W' : World} {S : Nat → Prop} {p g K L : Nat} {gs hs : List Gt}
theorem Has.tells (h : Has w0 p g K gs W) (hb : Below W.heap.size W W') : Has w0 p g K gs W' := ⟨h.grd.tells hb, h.inP, h.inG, h.below.trans (hb.mono h.below.size)⟩
theorem Has.drewN (h : Has w0 p g K gs W) (k : Nat) : Has w0 p g K gs (W.drewN k) := ⟨h.grd.drewN k, h.inP, h.inG, below_drewN h.below k⟩
theorem Has.eq (h : Has w0 p g K gs W) (e : gs = hs) : Has w0 p g K hs W := e ▸ h
theorem Has.more (h : Has w0 p g K gs W) (hk : K ≤ L) : Has w0 p g L gs W := ⟨h.grd.more hk, h.inP, h.inG, h.below⟩
theorem Has.turns (h : Has w0 p g K gs W) (ht : Turns S W W') (hS : ∀ k, S k → w0.heap.size ≤ k) (hp : ¬ S p) (hg : ¬ S g) : Has w0 p g K gs W' :=
  ⟨h.grd.turns ht hp hg, h.inP, h.inG, h.below.trans (ht.below hS h.below.size)⟩
theorem has_go (i t : Int) (h : Has w0 p g K gs W) (hK : K ≤ 1000000) : Calls Try.prog 11 #[.pointer (some ⟨p, 0, none⟩), .int .i64 i, .int .i64 t] W (Then (.int .i64 (goV gs i t)) w0 p g (K + 1) (goS gs i t) W) := by
  refine (goAt i t h.grd hK).mono ?_
  rintro e W' ⟨rfl, h1, h2⟩
  have hin := h.inG
  exact ⟨rfl, ⟨h1, h.inP, h.inG, h.below.trans (h2.below (fun k hk => by omega) h.below.size)⟩, h2⟩
theorem has_reset (h : Has w0 p g K gs W) : Calls Try.prog 14 #[.pointer (some ⟨p, 0, none⟩)] W (Then (.tuple #[]) w0 p g K (gs.map zeroG) W) := by
  refine (resetAt h.grd).mono ?_
  rintro e W' ⟨rfl, h1, h2⟩
  have hin := h.inG
  exact ⟨rfl, ⟨h1, h.inP, h.inG, h.below.trans (h2.below (fun k hk => by omega) h.below.size)⟩, h2⟩
theorem has_new {a : Option Addr} {cap : Nat} {l : List Int} (h : Ints W a cap l) (hb : Below w0.heap.size w0 W) (hd : Dist l) (h1 : 1 ≤ l.length) (h2 : l.length ≤ 16) : Calls Try.prog 9 #[.slice a l.length cap] W (HasNew w0 l W) := by
  refine (newAny (by unfold maxLen; omega) h).mono ?_
  intro e W' hN
  obtain ⟨p, g, rfl, hg, hp, hgg⟩ := hN.yes hd h1 h2
  have := hb.size
  exact ⟨p, g, rfl, ⟨hg, by omega, by omega, hb.trans (hN.below.mono hb.size)⟩, hp, hgg, hN.below⟩
end

/-- May distances be? -/
def distB (l : List Int) : Bool := l.all (fun x => decide (1 ≤ x) && decide (x ≤ 1048576))
theorem distB_iff {l : List Int} : distB l = true ↔ Dist l := by
  unfold distB Dist
  rw [List.all_eq_true]
  constructor
  · intro h x hx
    have := h x hx
    simpa using this
  · intro h x hx
    have := h x hx
    simpa using this
def rightB (l : List Int) : Bool := distB l && (decide (1 ≤ l.length) && decide (l.length ≤ 16))
theorem rightB_yes {l : List Int} : rightB l = true ↔ Dist l ∧ 1 ≤ l.length ∧ l.length ≤ 16 := by
  unfold rightB
  rw [Bool.and_eq_true, distB_iff, Bool.and_eq_true, decide_eq_true_eq, decide_eq_true_eq]
theorem rightB_no {l : List Int} : rightB l = false ↔ ¬ (Dist l ∧ 1 ≤ l.length ∧ l.length ≤ 16) := by
  rw [← rightB_yes]; simp
def RightRel (l : List Int) (i : Value) (w W : World) : Prop := ∃ k : Nat, k ≤ l.length ∧ i = .int .i64 (k : Int) ∧ W = w ∧ Dist (l.take k)
set_option maxRecDepth 100000 in
set_option maxHeartbeats 1000000 in
theorem rightAny {a : Option Addr} {cap : Nat} {l : List Int} {w : World} (hm : l.length ≤ maxLen) (h : Ints w a cap l) : Calls Try.prog 10 #[.slice a l.length cap] w (Says (.bool (rightB l)) w) := by
  have HI := Lib.hid h
  unfold maxLen at hm
  clear h
  go_enter Try.func10, Try.ntmps10
  go_wp2
  go_loopw [3] (fun i W => RightRel l i w W) (fun i _ => l.length - (intOf i).toNat)
  case atStart => exact ⟨0, by omega, rfl, rfl, fun x hx => by simp at hx⟩
  case round =>
    obtain ⟨k, hk, rfl, rfl, hd⟩ := hrel
    have HD := Lib.hid hd
    clear hd
    by_cases hlt : k < l.length
    · have t3 : decide ((k : Int) < (l.length : Int)) = true := by simp; omega
      have hx : l[k]? = some l[k] := List.getElem?_eq_getElem hlt
      have HT := Lib.hid (List.take_succ_eq_append_getElem hlt)
      have HM := Lib.hid (List.getElem_mem hlt)
      obtain ⟨b, off, rfl, hbl, hc⟩ := HI.out.at_ hx
      have x0 := hc _ (Below.refl _ _)
      have i1 : (0 : Int) ≤ (k : Int) := by omega
      have i2 : (k : Int) < (l.length : Int) := by omega
      clear hx hc
      generalize l[k] = x at x0 HT HM
      by_cases hr : 1 ≤ x ∧ x ≤ 1048576
      · have t4 : decide (x < 1) = false := decide_eq_false (by omega)
        have t5 : decide (1048576 < x) = false := decide_eq_false (by omega)
        have HR := Lib.hid hr
        clear hr
        go_wp2
        go_roundw
        case rel => exact ⟨k + 1, by omega, by go_num, rfl, by
          rw [HT.out]
          intro y hy
          rcases List.mem_append.1 hy with hy | hy
          · exact HD.out y hy
          · have : y = x := by simpa using hy
            subst this
            exact HR.out⟩
        case measure => simp [intOf]; omega
      · have htwo : decide (x < 1) = true ∨ (decide (x < 1) = false ∧ decide (1048576 < x) = true) := by
          by_cases h1 : x < 1
          · exact .inl (decide_eq_true h1)
          · exact .inr ⟨decide_eq_false h1, decide_eq_true (by omega)⟩
        have HN : Hid (rightB l = false) := Lib.hid (rightB_no.2 (fun h' => absurd (h'.1 x HM.out) hr))
        clear hr
        rcases htwo with t4 | ⟨t4, t5⟩
        all_goals
          go_wp2
          go_ret
          exact ⟨by rw [HN.out]; rfl, rfl⟩
    · have t3 : decide ((k : Int) < (l.length : Int)) = false := by simp; omega
      have t3' : decide (k < l.length) = false := by simp; omega
      obtain rfl : k = l.length := by omega
      rw [List.take_length] at HD
      by_cases h1 : 1 ≤ l.length
      · have t4 : decide ((1 : Int) ≤ (l.length : Int)) = true := decide_eq_true (by omega)
        by_cases h2 : l.length ≤ 16
        · have t5 : decide ((l.length : Int) ≤ 16) = true := decide_eq_true (by omega)
          have HN : Hid (rightB l = true) := Lib.hid (rightB_yes.2 ⟨HD.out, h1, h2⟩)
          go_wp2
          go_ret
          exact ⟨by rw [HN.out]; rfl, rfl⟩
        · have t5 : decide ((l.length : Int) ≤ 16) = false := decide_eq_false (by omega)
          have HN : Hid (rightB l = false) := Lib.hid (rightB_no.2 (fun h' => absurd h'.2.2 h2))
          go_wp2
          go_ret
          exact ⟨by rw [HN.out]; rfl, rfl⟩
      · have t4 : decide ((1 : Int) ≤ (l.length : Int)) = false := decide_eq_false (by omega)
        have HN : Hid (rightB l = false) := Lib.hid (rightB_no.2 (fun h' => absurd h'.2.1 h1))
        go_wp2
        go_ret
        exact ⟨by rw [HN.out]; rfl, rfl⟩

theorem two_ints (w : World) : Ints (w.alloc (.cells #[.int .i64 5, .int .i64 2] 3)) (some ⟨w.heap.size, 0, none⟩) 2 [5, 2] :=
  ⟨Nat.le_refl _, fun _ => ⟨w.heap.size, 0, rfl, (Lies.made w 3 #[.int .i64 5, .int .i64 2]).lt, fun i t hi => by
    rw [(Lies.made w 3 #[.int .i64 5, .int .i64 2]).cell]
    match i, hi with
    | 0, hi => cases hi; rfl
    | 1, hi => cases hi; rfl
    | i + 2, hi => simp at hi⟩⟩
set_option maxRecDepth 100000 in
set_option maxHeartbeats 4000000 in
theorem awake (w : World) : Calls Try.prog 8 #[] w (Woke w) := by
  have KN := Lib.hid (has_new (w0 := w) (two_ints w) (below_new w _) (by intro x hx; simp at hx; rcases hx with rfl | rfl <;> omega) (by decide) (by decide))
  go_enter Try.func8, Try.ntmps8
  go_wp2_with (fail)
  refine KN.out.mono ?_
  rintro e w1 ⟨p, g, rfl, h1, hp, hg, -⟩
  have H1 := Lib.hid h1
  clear h1 hp hg KN
  have KG := has_go 0 3 H1.out (by omega)
  rw [show goV (List.map freshG [5, 2]) 0 3 = 0 by decide, show goS (List.map freshG [5, 2]) 0 3 = [((5, 3, 1) : Gt), (2, 0, 0)] by decide] at KG
  have KG1 := Lib.hid KG
  clear KG
  go_wp2_with (fail)
  with_reducible refine KG1.out.mono ?_
  rintro e w2 ⟨rfl, h2, -⟩
  have H2 := Lib.hid h2
  clear h2
  have KG := has_go 0 7 H2.out (by omega)
  rw [show goV ([((5, 3, 1) : Gt), (2, 0, 0)]) 0 7 = 6 by decide, show goS ([((5, 3, 1) : Gt), (2, 0, 0)]) 0 7 = [((5, 3, 1) : Gt), (2, 0, 0)] by decide] at KG
  have KG2 := Lib.hid KG
  clear KG
  go_wp2_with (fail)
  with_reducible refine KG2.out.mono ?_
  rintro e w3 ⟨rfl, h3, -⟩
  have H3 := Lib.hid h3
  clear h3
  have KG := has_go 0 8 H3.out (by omega)
  rw [show goV ([((5, 3, 1) : Gt), (2, 0, 0)]) 0 8 = 0 by decide, show goS ([((5, 3, 1) : Gt), (2, 0, 0)]) 0 8 = [((5, 8, 2) : Gt), (2, 0, 0)] by decide] at KG
  have KG3 := Lib.hid KG
  clear KG
  go_wp2_with (fail)
  with_reducible refine KG3.out.mono ?_
  rintro e w4 ⟨rfl, h4, -⟩
  have H4 := Lib.hid h4
  clear h4
  have KG := has_go 2 0 H4.out (by omega)
  rw [show goV ([((5, 8, 2) : Gt), (2, 0, 0)]) 2 0 = 1 by decide, show goS ([((5, 8, 2) : Gt), (2, 0, 0)]) 2 0 = [((5, 8, 2) : Gt), (2, 0, 0)] by decide] at KG
  have KG4 := Lib.hid KG
  clear KG
  go_wp2_with (fail)
  with_reducible refine KG4.out.mono ?_
  rintro e w5 ⟨rfl, h5, -⟩
  have H5 := Lib.hid h5
  clear h5
  have KO := Lib.hid (show Calls Try.prog 12 #[.pointer (some ⟨p, 0, none⟩), .int .i64 0] w5 (Tells (.tuple #[.int .i64 13, .bool true]) w5) from openOf 0 H5.out.grd)
  go_wp2_with (fail)
  with_reducible refine KO.out.mono ?_
  rintro e w6 ⟨rfl, hb⟩
  have H6 := Lib.hid (H5.out.tells hb)
  clear hb
  have KC0 := Lib.hid (show Calls Try.prog 13 #[.pointer (some ⟨p, 0, none⟩), .int .i64 0] w6 (Says (.int .i64 2) w6) from countOf 0 H6.out.grd)
  have KC1 := Lib.hid (show Calls Try.prog 13 #[.pointer (some ⟨p, 0, none⟩), .int .i64 1] w6 (Says (.int .i64 0) w6) from countOf 1 H6.out.grd)
  have HB := Lib.hid H6.out.below
  clear H1 H2 H3 H4 H5 H6 KO KG1 KG2 KG3 KG4
  go_wp2_with (fail)
  with_reducible refine KC0.out.mono ?_
  rintro e w7 ⟨rfl, rfl⟩
  go_wp2_with (fail)
  with_reducible refine KC1.out.mono ?_
  rintro e w7 ⟨rfl, rfl⟩
  go_wp2
  go_ret
  exact ⟨rfl, HB.out⟩
end Go.Proofs.Ytllihehkceaibaa
