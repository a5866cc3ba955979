/- Contracts of a window: a new one; one more job; the last jobs as a row of the caller's own. -/
import Derived.Test.YthdjflmligoelaaWn
namespace Go.Proofs.Ythdjflmligoelaa
open Go.RowKit

/-- The window's jobs are xs; only its blocks have turned. -/
def Pushed (s : Hd) (m p g n : Nat) (xs : List Bool) (w : World) (e : Ending) (w' : World) : Prop :=
  e = .returned (.tuple #[]) ∧ Win s m w' p g n xs ∧ Turns p g w w'
set_option maxHeartbeats 400000 in
theorem push {s : Hd} {m n p g : Nat} {xs : List Bool} {w : World} (h : Win s m w p g n xs) (x : Bool) :
    Calls Try.prog 22 #[.pointer (some ⟨p, 5, none⟩), .bool x] w (Pushed s m p g n (xs.drop 1 ++ [x]) w) := by
  obtain ⟨h1, h2, h3, h4, f, hr⟩ := h
  match xs, h1, hr with
  | [], h1, hr => simp at h1; omega
  | x0 :: xs, h1, hr =>
    have hl : xs.length + 1 = n := by simpa using h1
    have K := Lib.hid (V.push_full x hl hr)
    have HL := Lib.hid hl
    clear hr hl h1
    go_enter Try.func22, Try.ntmps22
    go_wp2_with (fail)
    with_reducible refine K.out.mono ?_
    rintro e w' ⟨rfl, hr, ht⟩
    have HR := Lib.hid hr
    clear hr K
    go_wp2
    go_end0
    exact ⟨rfl, ⟨by have := HL.out; simp; omega, h2, h3, h4, HR.out⟩, ht⟩

/-- A new window. -/
def NewWin (m n : Nat) (w : World) (e : Ending) (w' : World) : Prop :=
  ∃ p g, e = .returned (.tuple #[.pointer (some ⟨p, 0, none⟩), .int .i64 0]) ∧ w.heap.size ≤ p ∧ w.heap.size ≤ g ∧ IsRing Value.bool 43 4 [.int .i64 (m : Int)] w' p g n 0 (List.replicate n true) ∧ Below w.heap.size w w'
def FillRel (n : Nat) (w : World) (q g : Nat) (i : Value) (W : World) : Prop :=
  ∃ (k : Nat) (X : World), k ≤ n ∧ i = .int .i64 (k : Int) ∧ X = W ∧ R.Is X q g n 0 (List.replicate k true) ∧ Below w.heap.size w X

theorem boxed {m n q g f : Nat} {xs : List Bool} {W : World} (h : R.Is W q g n f xs) (hl : xs.length = n) :
    IsRing Value.bool 43 4 [.int .i64 (m : Int)] (W.alloc (.cells #[.int .i64 (m : Int), .slice (some ⟨g, 0, none⟩) n n, .int .i64 (f : Int), .int .i64 (n : Int)] 43)) W.heap.size g n f xs := by
  obtain ⟨cs, hb, hs⟩ := h.body
  have hlt := hb.lt
  refine ⟨by omega, h.n1, h.n2, h.f1, h.len, ?_, cs, hb.alloc _, hs⟩
  have := Lies.made W 43 #[.int .i64 (m : Int), .slice (some ⟨g, 0, none⟩) n n, .int .i64 (f : Int), .int .i64 (n : Int)]
  rw [hl]
  exact this

set_option maxHeartbeats 1000000 in
theorem winNew {m n : Nat} (w : World) (m1 : 1 ≤ m) (m2 : m ≤ n) (m3 : n ≤ 64) :
    Calls Try.prog 18 #[.int .i64 (m : Int), .int .i64 (n : Int)] w (NewWin m n w) := by
  have t1 : decide ((m : Int) < 1) = false := by simp; omega
  have t2 : decide ((n : Int) < (m : Int)) = false := by simp; omega
  have t3 : decide ((64 : Int) < (n : Int)) = false := by simp; omega
  have K := Lib.hid (R.new n w (by omega) (by omega))
  go_enter Try.func18, Try.ntmps18
  go_wp2_with (fail)
  with_reducible refine K.out.mono ?_
  rintro e w1 ⟨q, g, rfl, hq, hg, hr, hb⟩
  have HR := Lib.hid hr
  have HB := Lib.hid hb
  clear hr hb K
  go_wp2
  go_loopw [25] (fun i W => FillRel n w q g i W) (fun i _ => n - (intOf i).toNat)
  case atStart => exact ⟨0, _, by omega, rfl, rfl, HR.out, HB.out⟩
  case round =>
    obtain ⟨k, X, hk, rfl, rfl, hr, hb⟩ := hrel
    have H1 := Lib.hid hr
    have B1 := Lib.hid hb
    clear hr hb HR HB
    by_cases hlt : k < n
    · have t1 : decide ((k : Int) < (n : Int)) = true := by simp; omega
      have K := Lib.hid (R.put true (by rw [List.length_replicate]; exact hlt) H1.out)
      go_wp2_with (fail)
      with_reducible refine K.out.mono ?_
      rintro e w2 ⟨rfl, hr, ht⟩
      have H2 := Lib.hid hr
      have B2 := Lib.hid (B1.out.trans (ht.below hq hg B1.out.size))
      clear hr ht K
      go_wp2
      go_roundw
      case rel => exact ⟨k + 1, _, by omega, by go_num, rfl, by rw [← replicate_snoc]; exact H2.out, B2.out⟩
      case measure => simp [intOf]; omega
    · have t1 : decide ((k : Int) < (n : Int)) = false := by simp; omega
      obtain rfl : k = n := by omega
      have c0 := R.k0 H1.out
      have c1 := R.k1 H1.out
      have c2 := R.k2 H1.out
      rw [List.length_replicate] at c2
      go_wp2
      go_ret2
      exact ⟨X.heap.size, g, rfl, B1.out.size, hg, boxed H1.out (List.length_replicate ..), B1.out.alloc B1.out.size _⟩
end Go.Proofs.Ythdjflmligoelaa
