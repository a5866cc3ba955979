/- The statements' own look at a ring of numbers: has it this list? It says true where it has, and only makes new memory. -/
import Derived.Test.YtnegmgnoohedlaaAt
import Derived.Test.YtnegmgnoohedlaaAwake
namespace Go.Proofs.Ytnegmgnoohedlaa
open Go.RowKit

/-- A slice that begins at a reads as l (nil and empty ones counted in). -/
def Reads {α : Type} (emb : α → Value) (w : World) (a : Option Addr) (l : List α) : Prop :=
  0 < l.length → ∃ b off, a = some ⟨b, off, none⟩ ∧ b < w.heap.size ∧ ∀ i u, l[i]? = some u → w.cell? ⟨b, off + i, none⟩ = some (emb u)
theorem Reads.below {α : Type} {emb : α → Value} {w w' : World} {a : Option Addr} {l : List α} {B : Nat} (h : Reads emb w a l) (hB : w.heap.size ≤ B) (hb : Below B w w') : Reads emb w' a l := by
  intro h0
  obtain ⟨b, off, ha, hlt, hc⟩ := h h0
  refine ⟨b, off, ha, Nat.lt_of_lt_of_le hlt hb.size, fun i u hu => ?_⟩
  rw [hb.cell (p := ⟨b, off + i, none⟩) (Nat.lt_of_lt_of_le hlt hB)]; exact hc i u hu

def SameRel (n : Nat) (w : World) (i : Value) (W : World) : Prop := ∃ k m : Nat, k ≤ n ∧ i = .int .i64 (k : Int) ∧ W = w.drewN m

set_option maxHeartbeats 1000000 in
theorem same {p g n f : Nat} {xs : List Int} {a : Option Addr} (cap : Nat) {w : World} (h : I.Is w p g n f xs) (hr : Reads (Value.int .i64) w a xs) :
    Calls Try.prog 13 #[.pointer (some ⟨p, 0, none⟩), .slice a xs.length cap] w (Woke w) := by
  have n2 := h.n2
  have hl := h.len
  have H := Lib.hid h
  have HR := Lib.hid hr
  clear h hr
  go_enter Try.func13, Try.ntmps13
  go_wp2_with (fail)
  with_reducible refine (I.all H.out).mono ?_
  rintro e w1 ⟨b, c, rfl, ho, hb⟩
  have HO := Lib.hid ho
  clear ho
  have H1 := Lib.hid (H.out.below_all hb)
  have HR1 := Lib.hid (HR.out.below (Nat.le_refl _) hb)
  go_wp2_with (fail)
  with_reducible refine (I.size H1.out).mono ?_
  rintro e w' ⟨rfl, rfl⟩
  go_wp2
  go_loopw [6] (fun i W => SameRel xs.length w1 i W) (fun i _ => xs.length - (intOf i).toNat)
  case atStart => exact ⟨0, 0, Nat.zero_le _, rfl, rfl⟩
  case round =>
    obtain ⟨k, m, hk, rfl, rfl⟩ := hrel
    by_cases hlt : k < xs.length
    · have t1 : decide ((k : Int) < (xs.length : Int)) = true := by simp; omega
      have hx : xs[k]? = some xs[k] := by simp
      obtain ⟨b2, off, rfl, _, hc⟩ := HR1.out (by omega)
      have ck := hc k _ hx
      clear hc
      have co : w1.cell? ⟨b, 0 + k, none⟩ = some (.int .i64 xs[k]) := by
        have := HO.out.cells (g := b) rfl k (.int .i64 xs[k]) (by simp)
        have hadd : (Addr.mk b 0 none).add k = ⟨b, 0 + k, none⟩ := by cases k <;> simp [Addr.add]
        rw [hadd] at this; exact this
      rw [Nat.zero_add] at co
      have HX := Lib.hid hx
      clear hx
      generalize xs[k] = x at ck co HX
      go_wp2_with (fail)
      with_reducible refine (I.at_some k x HX.out (H1.out.drewN _)).mono ?_
      rintro e w' ⟨rfl, m2, rfl⟩
      go_wp2_with (fail)
      go_quiet (fail)
      go_wp2
      go_roundw
      case rel => exact ⟨k + 1, _, by omega, by go_num, rfl⟩
      case measure => simp [intOf]; omega
    · have t1 : decide ((k : Int) < (xs.length : Int)) = false := by simp; omega
      have t2 : decide (k < xs.length) = false := by simp; omega
      go_wp2_with (fail)
      with_reducible refine (I.at_none _ (.inr (Int.le_refl _)) (H1.out.drewN _)).mono ?_
      rintro e w' ⟨rfl, rfl⟩
      go_wp2_with (fail)
      with_reducible refine (I.at_none _ (.inl (by omega)) (H1.out.drewN _)).mono ?_
      rintro e w' ⟨rfl, rfl⟩
      go_wp2
      go_ret
      exact ⟨rfl, below_drewN hb _⟩
end Go.Proofs.Ytnegmgnoohedlaa
