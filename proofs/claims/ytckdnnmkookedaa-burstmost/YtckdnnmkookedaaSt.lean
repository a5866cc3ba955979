/- The bursts' beginnings: the program's, and the statements' own. -/
import Derived.Test.YtckdnnmkookedaaLg
namespace Go.Proofs.Ytckdnnmkookedaa
open Go.RowKit

/-- A row of the call's own told by a list. -/
def Owns (w : World) (l : List Int) (v : Value) (W : World) : Prop := W.ownsRow w.heap.size 3 1 v l.length (cellsI l) ∧ Below w.heap.size w W
theorem Owns.drewN {w W : World} {l : List Int} {v : Value} (h : Owns w l v W) (q : Nat) : Owns w l v (W.drewN q) := ⟨h.1, below_drewN h.2 q⟩
theorem owns_none (w : World) : Owns w [] (.slice none 0 0) w := ⟨⟨rfl, .inl ⟨rfl, rfl⟩⟩, Below.refl _ _⟩
/-- One more is appended. -/
theorem owns_one {w W W' : World} {l : List Int} {v v' : Value} {x : Int} (h : Owns w l v W) (o : Obj) (h1 : W'.ownsRow w.heap.size 3 1 v' (l.length + 1) (cellsI (l ++ [x]))) (h2 : (W.alloc o).grownBy W' v.ownBlock) : Owns w (l ++ [x]) v' W' := by
  refine ⟨by simpa using h1, (h.2.alloc h.2.size o).grown h2 ?_ (own_from h.1)⟩
  have := h.2.size
  simp
  omega
theorem small_at {l : List Int} (hs : ∀ x ∈ l, 0 ≤ x ∧ x ≤ 1099511627776) {k : Nat} {x : Int} (hx : l[k]? = some x) : 0 ≤ x ∧ x ≤ 1099511627776 := hs x (List.mem_of_getElem? hx)

def StartRel (b : Int) (l : List Int) (w : World) (v i : Value) (W : World) : Prop :=
  ∃ k : Nat, k ≤ l.length ∧ i = .int .i64 (k : Int) ∧ Owns w (startsF b (l.take k)) v W
set_option maxHeartbeats 4000000 in
theorem starts {A : Option Addr} {c n : Nat} {l : List Int} {w : World} (b : Int) (h : Ints w A c l) (hn : l.length = n) (hl : n ≤ 3000) (hs : ∀ x ∈ l, 0 ≤ x ∧ x ≤ 1099511627776) (b0 : 1 ≤ b) (b1 : b ≤ 1000) :
    Calls Try.prog 14 #[.slice A n c, .int .i64 b] w (NewInts (startsF b l) w) := by
  have H := Lib.hid h
  clear h
  go_enter Try.func14, Try.ntmps14
  go_wp2_with (go_at_call 22; refine (isLength_yes _ _ b0 b1).mono ?_; rintro e w' ⟨rfl, rfl⟩)
  go_loopw [5, 13] (fun v i W => StartRel b l w v i W) (fun _ i _ => n - (intOf i).toNat)
  case atStart => exact ⟨0, by omega, rfl, owns_none w⟩
  case round =>
    obtain ⟨k, hk, rfl, ho⟩ := hrel
    have HO := Lib.hid ho
    have hsl : (startsF b (l.take k)).length ≤ k := by have := starts_len b (l.take k); rw [List.length_take] at this; omega
    by_cases hlt : k < n
    · have t1 : decide ((k : Int) < (n : Int)) = true := by simp; omega
      have hx : l[k]? = some (l[k]'(by omega)) := List.getElem?_eq_getElem (by omega)
      obtain ⟨x0, x1⟩ := small_at hs hx
      obtain ⟨b1', off, rfl, hb, hcell⟩ := H.out.at_ hx
      have ck := hcell wr ho.2
      have HN := Lib.hid (starts_next (b := b) hx)
      have HM := Lib.hid (fun x hx => hs x (List.mem_of_mem_take (starts_sub (b := b) (l := l.take k) hx)))
      clear hx hcell ho
      generalize l[k]'_ = x at *
      generalize startsF b (l.take k) = S at *
      obtain ⟨_, A2, c2, rfl, hI⟩ := own_ints HO.out.1
      have HI := Lib.hid hI
      clear hI
      by_cases hz : S.length = 0
      · obtain rfl : S = [] := List.eq_nil_of_length_eq_zero hz
        have HN2 : Hid (startsF b (l.take (k + 1)) = [] ++ [x]) := Lib.hid (by rw [HN.out]; rfl)
        simp only [List.length_nil] at *
        go_wp2
        go_quiet (fail)
        go_wp2_with (at_builtin; first
          | (refine append_ints _ rfl _ _ rfl w.heap.size _ 0 [] rfl ((HO.out.drewN _).1.alloc _) _ 1 1 [x] rfl rfl (one_int _ x) (by omega) (by have := HO.out.2.size; simp; omega) ?_
             intro v2 w2 o2 g2
             have H2 := Lib.hid (owns_one (HO.out.drewN _) _ o2 g2)
             clear o2 g2))
        go_roundw
        case rel => exact ⟨k + 1, by omega, by go_num, by rw [HN2.out]; exact H2.out⟩
        case measure => simp [intOf]; omega
      · have t2 : ((S.length : Int) == 0) = false := beq_eq_false_iff_ne.2 (by omega)
        have hy : S[S.length - 1]? = some (S[S.length - 1]'(by omega)) := List.getElem?_eq_getElem (by omega)
        obtain ⟨y0, y1⟩ := small_at HM.out hy
        obtain ⟨b2, off2, rfl, hb2, hcell2⟩ := HI.out.at_ hy
        have cy := hcell2 wr (Below.refl _ _)
        have HL := Lib.hid (lastO_at S none (by omega))
        rw [hy] at HL
        clear hy hcell2
        generalize S[S.length - 1]'_ = y at *
        rw [HL.out] at HN
        have hpos : 0 < S.length := by omega
        by_cases hop : b ≤ x - y
        · have HN2 : Hid (startsF b (l.take (k + 1)) = S ++ [x]) := Lib.hid (by rw [HN.out, if_pos (by simpa [opensB] using hop)])
          have t3 : decide (b ≤ x - y) = true := by simpa using hop
          clear HL HN HM
          go_wp2
          go_quiet (fail)
          go_wp2_with (at_builtin; first
            | (refine append_ints _ rfl _ _ rfl w.heap.size _ S.length S rfl ((HO.out.drewN _).1.alloc _) _ 1 1 [x] rfl rfl (one_int _ x) (by omega) (by have := HO.out.2.size; simp; omega) ?_
               intro v2 w2 o2 g2
               have H2 := Lib.hid (owns_one (HO.out.drewN _) _ o2 g2)
               clear o2 g2))
          go_roundw
          case rel => exact ⟨k + 1, by omega, by go_num, by rw [HN2.out]; exact H2.out⟩
          case measure => simp [intOf]; omega
        · have HN2 : Hid (startsF b (l.take (k + 1)) = S) := Lib.hid (by rw [HN.out, if_neg (by simpa [opensB] using hop), List.append_nil])
          have t3 : decide (b ≤ x - y) = false := by simpa using hop
          clear HL HN HM
          go_wp2
          go_quiet (fail)
          go_wp2
          go_roundw
          case rel => exact ⟨k + 1, by omega, by go_num, by rw [HN2.out]; exact HO.out.drewN _⟩
          case measure => simp [intOf]; omega
    · have t1 : decide ((k : Int) < (n : Int)) = false := by simp; omega
      have t2 : decide (k < n) = false := by simp; omega
      obtain rfl : k = n := by omega
      have HE := Lib.hid (show startsF b (l.take k) = startsF b l by rw [List.take_of_length_le (by omega)])
      rw [HE.out] at HO
      clear ho
      obtain ⟨_, A2, c2, rfl, _⟩ := own_ints HO.out.1
      go_wp2
      go_ret
      exact ⟨_, rfl, HO.out.1, HO.out.2⟩
end Go.Proofs.Ytckdnnmkookedaa
