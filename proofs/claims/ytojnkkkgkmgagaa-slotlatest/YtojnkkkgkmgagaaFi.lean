/- The slot with an Id, looked for: slices.IndexFunc over a function literal. -/
import Derived.Test.YtojnkkkgkmgagaaBs
import Derived.Test.YtojnkkkgkmgagaaIc
namespace Go.Proofs.Ytojnkkkgkmgagaa
open Go.RowKit

set_option maxHeartbeats 1000000 in
theorem isId (s : Ky) (id : Int) (b : Nat) (w : World) (hb : w.cell? ⟨b, 0, none⟩ = some (.int .i64 id)) (hlt : b < w.heap.size) :
    Calls Try.prog 28 #[aggQ s, .pointer (some ⟨b, 0, none⟩)] w (Tells (.bool (s.1 == id)) w) := by
  obtain ⟨s0, s1, s2, s3⟩ := s
  simp only [aggQ]
  generalize hr : (s0 == id) = r
  have HB := Lib.hid (below_new w (.cells #[.int .i64 s0, .int .i64 s1, .int .i64 s2, .int .i64 s3] 33))
  have HL := Lib.hid (Lies.made w 33 #[.int .i64 s0, .int .i64 s1, .int .i64 s2, .int .i64 s3])
  have HC := Lib.hid ((HB.out.cell (p := ⟨b, 0, none⟩) hlt).trans hb)
  clear hb
  go_enter Try.func28, Try.ntmps28
  go_upto_region 1 with fail
  generalize w.alloc (.cells #[.int .i64 s0, .int .i64 s1, .int .i64 s2, .int .i64 s3] 33) = V at HB HL HC ⊢
  have c0 : V.cell? ⟨w.heap.size, 0, none⟩ = some (.int .i64 s0) := HL.out.cell 0
  have c1 : V.cell? ⟨b, 0, none⟩ = some (.int .i64 id) := HC.out
  go_wp2
  go_ret
  exact ⟨rfl, HB.out⟩

/-- The place of the slot with an Id, or that there is none. -/
def Fnd (l : List Ky) (id r : Int) : Prop := (∃ (i : Nat) (x : Ky), l[i]? = some x ∧ idK x = id ∧ r = (i : Int)) ∨ ((∀ x ∈ l, idK x ≠ id) ∧ r = -1)
def Found (l : List Ky) (id : Int) (w : World) (e : Ending) (w' : World) : Prop := ∃ r : Int, e = .returned (.int .i64 r) ∧ Fnd l id r ∧ Below w.heap.size w w'
def FindRel (l : List Ky) (id : Int) (w : World) (i : Value) (W : World) : Prop :=
  ∃ (k : Nat) (X : World), k ≤ l.length ∧ i = .int .i64 (k : Int) ∧ X = W ∧ Below w.heap.size w X ∧ ∀ j x, j < k → l[j]? = some x → idK x ≠ id

set_option maxRecDepth 100000 in
set_option maxHeartbeats 2000000 in
theorem index {l : List Ky} {id : Int} {a : Option Addr} {c b : Nat} {w : World} (hk : Keys w a c l) (hl : l.length ≤ 2000) (hb : w.cell? ⟨b, 0, none⟩ = some (.int .i64 id)) (hlt : b < w.heap.size) :
    Calls Try.prog 27 #[.slice a l.length c, .func (.func 28) #[] #[.pointer (some ⟨b, 0, none⟩)]] w (Found l id w) := by
  have HK := Lib.hid hk
  have HC := Lib.hid hb
  clear hk hb
  go_enter Try.func27, Try.ntmps27
  go_wp2
  go_loopw [8] (fun i W => FindRel l id w i W) (fun i _ => l.length - (intOf i).toNat)
  case atStart => exact ⟨0, w, by omega, rfl, rfl, Below.refl _ _, fun j x hj => by omega⟩
  case round =>
    obtain ⟨k, W, hkl, rfl, rfl, hbel, hno⟩ := hrel
    have HB := Lib.hid hbel
    have HN := Lib.hid hno
    clear hbel hno
    by_cases hlk : k < l.length
    · have t1 : decide ((k : Int) < (l.length : Int)) = true := by simp; omega
      have hx : l[k]? = some l[k] := List.getElem?_eq_getElem hlk
      obtain ⟨g, off, rfl, hg, x0, x1, x2, x3⟩ := (HK.out.below (Nat.le_refl _) HB.out).cells hx
      have HX := Lib.hid hx
      clear hx
      generalize l[k] = s at x0 x1 x2 x3 HX
      obtain ⟨s0, s1, s2, s3⟩ := s
      simp only at x0 x1 x2 x3
      have KC := Lib.hid (isId (s0, s1, s2, s3) id b W ((HB.out.cell (p := ⟨b, 0, none⟩) hlt).trans HC.out) (Nat.lt_of_lt_of_le hlt HB.out.size))
      simp only [aggQ] at KC
      have HR : Hid ((s0 == id) = true ↔ idK (s0, s1, s2, s3) = id) := by simp [Hid, idK]
      generalize (s0 == id) = r at KC HR
      have i1 : (0 : Int) ≤ (k : Int) := by omega
      cases r with
      | true =>
        have HT := Lib.hid (HR.out.1 rfl)
        go_wp2_with (go_at_call 28; refine KC.out.mono ?_; rintro e w2 ⟨rfl, hb2⟩; have HB2 := Lib.hid (HB.out.trans (hb2.mono HB.out.size)); clear hb2)
        go_ret
        exact ⟨_, rfl, .inl ⟨k, _, HX.out, HT.out, rfl⟩, HB2.out⟩
      | false =>
        have HT : Hid (idK (s0, s1, s2, s3) ≠ id) := fun e' => by have := HR.out.2 e'; cases this
        go_wp2_with (go_at_call 28; refine KC.out.mono ?_; rintro e w2 ⟨rfl, hb2⟩; have HB2 := Lib.hid (HB.out.trans (hb2.mono HB.out.size)); clear hb2)
        have HN2 : Hid (∀ j x, j < k + 1 → l[j]? = some x → idK x ≠ id) := fun j x hj hx => by
          by_cases e : j = k
          · subst e
            rw [HX.out] at hx
            cases hx
            exact HT.out
          · exact HN.out j x (by omega) hx
        go_roundw
        case rel => exact ⟨k + 1, _, by omega, by go_num, rfl, HB2.out, HN2.out⟩
        case measure => simp [intOf]; omega
    · have t1 : decide ((k : Int) < (l.length : Int)) = false := by simp; omega
      have t1' : decide (k < l.length) = false := by simp; omega
      go_wp2
      go_ret
      refine ⟨_, rfl, .inr ⟨fun x hx => ?_, rfl⟩, HB.out⟩
      obtain ⟨j, hj⟩ := List.getElem?_of_mem hx
      exact HN.out j x (by have := (List.getElem?_eq_some_iff.1 hj).1; omega) hj
end Go.Proofs.Ytojnkkkgkmgagaa
