/- Contract of a ring of bools in a window: all of its list, in memory of its own. -/
import Derived.Test.YtpmllnfmdgeejaaVD
import Derived.Deep.AppendLies
namespace Go.Proofs.Ytpmllnfmdgeejaa
open Go.RowKit

namespace V
/-- The list, in a row that is new. -/
def Alls (xs : List Bool) (w : World) (e : Ending) (w' : World) : Prop :=
  ∃ b cap, e = .returned (.slice (some ⟨b, 0, none⟩) xs.length cap) ∧ w'.ownsRow w.heap.size 4 1 (.slice (some ⟨b, 0, none⟩) xs.length cap) xs.length (xs.map Value.bool) ∧ Below w.heap.size w w'
def AllRel (xs : List Bool) (w : World) (l i : Value) (W : World) : Prop :=
  ∃ k b cap, k ≤ xs.length ∧ l = .slice (some ⟨b, 0, none⟩) k cap ∧ i = .int .i64 ((k : Nat) : Int) ∧ W.ownsRow w.heap.size 4 1 (.slice (some ⟨b, 0, none⟩) k cap) k ((xs.take k).map Value.bool) ∧ Below w.heap.size w W

set_option maxHeartbeats 1000000 in
theorem all {m : Int} {p g n f : Nat} {xs : List Bool} {w : World} (h : Is m w p g n f xs) :
    Calls Try.prog 19 #[.pointer (some ⟨p, 1, none⟩)] w (Alls xs w) := by
  obtain ⟨i0, hi0, hz0, hs0, hb0⟩ := info
  have c2 := (k2 h)
  have n1 := h.n1
  have n2 := h.n2
  have f1 := h.f1
  have hl := h.len
  have hmk : ∀ W : World, (Instr.makeSlice 22 (.int .i64 0) (.int .i64 (xs.length : Int))).run Try.prog W = .ok (.slice (some ⟨W.heap.size, 0, none⟩) 0 xs.length) (W.alloc (.cells (madeCells (Value.bool false).cells xs.length) 4)) := by
    intro W
    have := run_make (P := Try.prog) W 22 4 i0 (Value.bool false) Try.underlying22 hi0 hz0 .i64 .i64 0 xs.length (by omega) (by omega) (by rw [hb0]; omega) (by omega)
    rw [hs0] at this
    simpa using this
  have HI := Lib.hid hi0
  have HZ := Lib.hid hz0
  have HS := Lib.hid hs0
  have HB := Lib.hid hb0
  clear hi0 hz0 hs0 hb0
  have lp := h.ltp
  have lg := h.ltg
  have H := Lib.hid h
  clear h
  have HM : ∀ W : World, (W.alloc (.cells (madeCells (Value.bool false).cells xs.length) 4)).ownsRow W.heap.size 4 1 (.slice (some ⟨W.heap.size, 0, none⟩) 0 xs.length) 0 [] :=
    fun W => World.ownsRow_made W _ _ (Nat.le_refl _) (by unfold maxLen; omega) (by simp [size_madeCells])
  have HM' := Lib.hid HM
  clear HM
  go_enter Try.func19, Try.ntmps19
  go_wp2
  clear hmk
  go_loopw [3, 14] (fun l i W => AllRel xs w l i W) (fun _ i _ => xs.length - (intOf i).toNat)
  case atStart => exact ⟨0, w.heap.size, xs.length, Nat.zero_le _, rfl, rfl, HM'.out w, (Below.refl _ _).alloc (Nat.le_refl _) _⟩
  case round =>
    obtain ⟨k, b, cap, hk, rfl, rfl, ho, hb⟩ := hrel
    have HO := Lib.hid ho
    clear ho
    by_cases hlt : k < xs.length
    · have t1 : decide ((k : Int) < (xs.length : Int)) = true := by simp; omega
      have hr := H.out.below_all hb
      have c0' := (k0 hr)
      have c1' := (k1 hr)
      have hu : xs[k]? = some xs[k] := by simp
      have cj := hr.at_ hu
      have HU := Lib.hid hu
      clear hu hr
      obtain ⟨j, hj⟩ : ∃ j, j = (f + k) % n := ⟨_, rfl⟩
      have hjn : j < n := by rw [hj]; exact Nat.mod_lt _ (by omega)
      rw [← hj] at cj
      have HJ := Lib.hid hj
      clear hj
      generalize xs[k] = x at cj HU
      have hsz := hb.size
      have hN : wr.heap.size ≠ p := by omega
      have hN' : wr.heap.size ≠ g := by omega
      have hbp : b ≠ p := by have := (HO.out.lt b rfl).1; omega
      have hbg : b ≠ g := by have := (HO.out.lt b rfl).1; omega
      have hbl := (HO.out.lt b rfl).2
      go_wp2_with (fail)
      go_region_held3 (fun w' => w'.cell? ⟨p, 1, none⟩ = some (.slice (some ⟨g, 0, none⟩) n n) ∧ w'.cell? ⟨g, j, none⟩ = some (.bool x))
        (first
          | go_keep
          | (go_split_ands
             refine ⟨?_, ?_⟩
             · (rw [hgrow.cell_far _ (by simp; omega) (by simp [Value.ownBlock]; omega)]; assumption)
             · (rw [hgrow.cell_far _ (by simp; omega) (by simp [Value.ownBlock]; omega)]; assumption)))
        (first
          | (go_at_call 23; (with_reducible refine (place k j n1 n2 f1 (by omega) HJ.out (by simpa using c0') (by simpa using c1')).mono ?_); rintro e w' ⟨rfl, m, rfl⟩)
          | (refine step_append_lies _ (by rfl) _ _ _ (by rfl) w.heap.size 4 i0 _ 1 1 Try.underlying22 HI.out HZ.out HS.out HB.out rfl (by omega) (.slice (some ⟨b, 0, none⟩) k cap) k ((xs.take k).map Value.bool) (by rfl) (by exact HO.out.alloc _)
              ⟨wr.heap.size, 0, none⟩ 1 1 [.bool x] (by rfl) (by rfl) (World.news_of_block (cs := #[.bool x]) (t := 4) (fr := (0, 0)) (heap_alloc_new wr _)) (by simp [Value.oneCell'])
              (by omega) (by unfold maxLen; omega) (by omega) (by simp; omega) (wr.heap.size + 1) (by simp) ?_; intro b1 cap1 w1 hown1 hgrow hat hlt1))
      have hnext : (xs.take k).map Value.bool ++ [.bool x] = (xs.take (k + 1)).map Value.bool := by
        rw [List.take_add_one, HU.out]; simp
      rw [hnext] at hown1
      clear hnext
      have HB1 : Below w.heap.size w w1 := Below.grown (((below_drewN hb _).alloc (by simpa using hsz) _)) hgrow (by simp; omega) (fun q hq => by
        have : b = q := by simpa [Value.ownBlock] using hq
        subst this
        exact (HO.out.lt b rfl).1)
      have HO1 := Lib.hid hown1
      clear hown1
      go_wp2
      go_roundw
      case rel => exact ⟨k + 1, b1, cap1, by omega, rfl, by go_num, HO1.out, HB1⟩
      case measure => simp [intOf]; omega
    · have t1 : decide ((k : Int) < (xs.length : Int)) = false := by simp; omega
      have t2 : decide (k < xs.length) = false := by simp; omega
      obtain rfl : k = xs.length := by omega
      go_wp2
      go_ret
      exact ⟨b, cap, rfl, by simpa using HO.out, hb⟩
end V
end Go.Proofs.Ytpmllnfmdgeejaa
