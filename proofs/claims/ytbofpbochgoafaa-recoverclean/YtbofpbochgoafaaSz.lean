/- What RecoverHits and RecoverClean count. -/
import Derived.Test.YtbofpbochgoafaaSx
namespace Go.Proofs.Ytbofpbochgoafaa
open Go.RowKit

section
variable {t : Tk} {d s l f l' f' ev z : Int} {n k k' i p : Nat} {b b' q : Bool}
theorem upto_next {c : Int} (h : k < n) : uptoV s c d n (k + 1) = uptoV s c d n k + pf s c d k := sum_next (pl_at h)
theorem upto_late (c : Int) (k : Nat) : uptoV s c d n (k + 1) + lateV s c d n k = (pl s c d n).sum := sum_cut (k + 1)
theorem Sm.part_pos (h : Sm t d n s) (hk : k < n) : 1 ≤ pf s t.Cost d k ∧ pf s t.Cost d k ≤ 1000 := by
  have h1 := h.ways.cuts.least (c := t.Cost) hk
  have h2 := pf_most s t.Cost d k
  obtain ⟨_, _, _, h4, _, _, h5⟩ := h.nums
  have := h.Cost
  omega
theorem Sm.upto_mono (h : Sm t d n s) {x y : Nat} (hxy : x ≤ y) (hy : y ≤ n) : uptoV s t.Cost d n x ≤ uptoV s t.Cost d n y := by
  induction y with
  | zero => have : x = 0 := by omega
            rw [this]; exact Int.le_refl _
  | succ y ih =>
    by_cases hx : x = y + 1
    · rw [hx]; exact Int.le_refl _
    · have h1 := ih (by omega) (by omega)
      have h2 := upto_next (s := s) (c := t.Cost) (d := d) (n := n) (k := y) (by omega)
      have h3 := (h.part_pos (k := y) (by omega)).1
      omega
/-- Just one part holds a tick. -/
theorem Sm.one_part (h : Sm t d n s) {x y : Nat} {z : Int} (hx : x < n) (hy : y < n) (x0 : uptoV s t.Cost d n x ≤ z) (x1 : z < uptoV s t.Cost d n (x + 1)) (y0 : uptoV s t.Cost d n y ≤ z) (y1 : z < uptoV s t.Cost d n (y + 1)) : x = y := by
  rcases Nat.lt_trichotomy x y with hlt | heq | hgt
  · have := h.upto_mono (show x + 1 ≤ y from hlt) (by omega); omega
  · exact heq
  · have := h.upto_mono (show y + 1 ≤ x from hgt) (by omega); omega
theorem upto_zero (c : Int) : uptoV s c d n 0 = 0 := by simp [uptoV]
theorem upto_all (c : Int) : uptoV s c d n n = (pl s c d n).sum := by
  unfold uptoV
  rw [List.take_of_length_le (by rw [length_pl]; exact Nat.le_refl _)]
/-- What a part that failed costs more: its own ticks again, or the alternate's. -/
def moreV (t : Tk) (s d : Int) (p : Nat) : Int := if t.Mode = 1 then pf s t.Cost d p else t.A + t.Cost
theorem Sm.more_pos (h : Sm t d n s) (hp : k < n) : 1 ≤ moreV t s d k ∧ moreV t s d k ≤ 1000 := by
  unfold moreV
  by_cases hm : t.Mode = 1
  · rw [if_pos hm]; exact h.part_pos hp
  · rw [if_neg hm]
    have := h.len (n := n) (k := 1) (.inr ⟨hm, rfl⟩)
    unfold lenV at this
    rw [if_pos ⟨hm, rfl⟩] at this
    exact this
theorem back_more (t : Tk) (s d : Int) (k : Nat) : lenV t s d (backK t k) = moreV t s d k := by
  unfold lenV moreV backK
  by_cases hm : t.Mode = 1
  · rw [if_pos hm, if_pos hm, if_neg (fun hc => hc.1 hm)]
  · rw [if_neg hm, if_neg hm, if_pos ⟨hm, rfl⟩]
/-- Behind i ticks, of which just the one at z is struck, in part p: how the run stands. -/
inductive HitI (t : Tk) (d s : Int) (n p : Nat) (z : Int) (k : Nat) (l : Int) (b : Bool) (f : Int) (i : Nat) : Prop where
  | early (hz : (i : Int) ≤ z) (hf : f = 0) (hb : b = false) (hk : k < n) (l1 : 1 ≤ l) (l2 : l ≤ pf s t.Cost d k) (hi : (i : Int) + l + lateV s t.Cost d n k = (pl s t.Cost d n).sum)
  | struck (hz : z < (i : Int)) (hf : f = 0) (hb : b = true) (hk : k = p) (l1 : 1 ≤ l) (l2 : l ≤ pf s t.Cost d k) (hi : (i : Int) + l + lateV s t.Cost d n k = (pl s t.Cost d n).sum)
  | again (hz : z < (i : Int)) (hf : f = 1) (hb : b = false) (hk : IsPart t n k) (l1 : 1 ≤ l) (l2 : l ≤ lenV t s d k) (hi : (i : Int) + l + lateV s t.Cost d n k = (pl s t.Cost d n).sum + moreV t s d p)
/-- The struck tick lies in part p. -/
structure HitP (t : Tk) (d s : Int) (n p : Nat) (z : Int) : Prop where
  part : p < n
  low : uptoV s t.Cost d n p ≤ z
  high : z < uptoV s t.Cost d n (p + 1)
theorem HitP.less (hp : HitP t d s n p z) (h : Sm t d n s) : 0 ≤ z ∧ z < (pl s t.Cost d n).sum := by
  have h1 := upto_late (d := d) (s := s) (n := n) t.Cost p
  have h2 := (h.late p).1
  have h3 := h.upto_mono (show 0 ≤ p by omega) (by have := hp.part; omega)
  rw [upto_zero] at h3
  have := hp.low
  have := hp.high
  omega
theorem HitI.first (h : Sm t d n s) (hp : HitP t d s n p z) : HitI t d s n p z 0 (lenV t s d 0) false 0 0 := by
  have hs := h.sum_first
  have hn := h.nums
  have h0 := hp.less h
  have h1 := h.len h.first
  have h2 : lenV t s d 0 = pf s t.Cost d 0 := len_first (.inl rfl)
  exact .early (by simpa using h0.1) rfl rfl (by omega) h1.1 (by omega) (by rw [hs]; simp)
theorem HitI.good (c : HitI t d s n p z k l b f i) (h : Sm t d n s) (hp : HitP t d s n p z) : IsPart t n k ∧ 1 ≤ l ∧ l ≤ 1000 ∧ 0 ≤ f ∧ f ≤ 1 ∧ (i : Int) + 1 ≤ (pl s t.Cost d n).sum + moreV t s d p := by
  have hmo := h.more_pos hp.part
  have hl := (h.late k).1
  cases c with
  | early hz hf hb hk l1 l2 hi => have := h.part_pos hk; exact ⟨.inl hk, l1, by omega, by omega, by omega, by omega⟩
  | struck hz hf hb hk l1 l2 hi => subst hk; have := h.part_pos hp.part; exact ⟨.inl hp.part, l1, by omega, by omega, by omega, by omega⟩
  | again hz hf hb hk l1 l2 hi => have := h.len hk; exact ⟨hk, l1, by omega, by omega, by omega, by omega⟩
/-- What the next tick makes of it: it ends just at the sum and what a part costs more. -/
theorem HitI.goes (c : HitI t d s n p z k l b f i) (h : Sm t d n s) (hp : HitP t d s n p z) (hq : q = decide ((i : Int) = z)) (st : Stp t d s n k l b f q k' l' b' f' ev) :
    (ev = 4 ∧ (i : Int) + 1 = (pl s t.Cost d n).sum + moreV t s d p ∧ f' = 1) ∨ (ev ≠ 4 ∧ (i : Int) + 1 < (pl s t.Cost d n).sum + moreV t s d p ∧ HitI t d s n p z k' l' b' f' (i + 1)) := by
  have hmo := h.more_pos hp.part
  have hlk := (h.late k).1
  obtain ⟨z0, z1⟩ := hp.less h
  have key : (ev ≠ 4 → HitI t d s n p z k' l' b' f' (i + 1)) ∧ (ev = 4 → (i : Int) + 1 = (pl s t.Cost d n).sum + moreV t s d p ∧ f' = 1) := by
    have hcast : ((i + 1 : Nat) : Int) = (i : Int) + 1 := by omega
    cases c with
    | early hz hf hb hk l1 l2 hi =>
      have hsplit := upto_late (d := d) (s := s) (n := n) t.Cost k
      have hnext := upto_next (s := s) (c := t.Cost) (d := d) (n := n) hk
      have hpk : (i : Int) = z → k = p := fun he => h.one_part hk hp.part (z := z) (by omega) (by omega) hp.low hp.high
      by_cases hiz : (i : Int) = z
      · have hqt : q = true := by rw [hq]; exact decide_eq_true hiz
        have hkp := hpk hiz
        cases st with
        | runs hl => exact ⟨fun _ => .struck (by omega) hf (by rw [hqt]; simp) hkp (by omega) (by omega) (by omega), fun he => by cases he⟩
        | fails hl hbq ev hev =>
          refine ⟨fun _ => .again (by omega) (by omega) rfl (back_part (.inl hk)) ?_ (Int.le_refl _) ?_, fun he => by omega⟩
          · rw [back_more, hkp]; exact hmo.1
          · rw [back_more, hkp, hcast]
            have hlb : lateV s t.Cost d n (backK t p) = lateV s t.Cost d n p := by
              unfold backK
              by_cases hm : t.Mode = 1
              · rw [if_pos hm]
              · have := (h.single hm).1
                rw [if_neg hm, late_none (by omega), late_none (by omega)]
            rw [hlb, ← hkp]; omega
        | done hl hbq hkn => rw [hqt] at hbq; simp at hbq
        | passed hl hbq hkn => rw [hqt] at hbq; simp at hbq
      · have hqf : q = false := by rw [hq]; exact decide_eq_false hiz
        cases st with
        | runs hl => exact ⟨fun _ => .early (by omega) hf (by rw [hqf, hb]; rfl) hk (by omega) (by omega) (by omega), fun he => by cases he⟩
        | fails hl hbq ev hev => rw [hqf, hb] at hbq; simp at hbq
        | done hl hbq hkn => rw [late_none hkn] at hi; omega
        | passed hl hbq hkn =>
          have hln := h.len_next hkn
          have hlf : lenV t s d (k + 1) = pf s t.Cost d (k + 1) := len_first (.inr (h.many hkn))
          have hpp := h.part_pos hkn
          exact ⟨fun _ => .early (by omega) hf rfl hkn (by omega) (by omega) (by omega), fun he => by cases he⟩
    | struck hz hf hb hk l1 l2 hi =>
      have hqf : q = false := by rw [hq]; exact decide_eq_false (by omega)
      cases st with
      | runs hl => exact ⟨fun _ => .struck (by omega) hf (by rw [hb]; rfl) hk (by omega) (by omega) (by omega), fun he => by cases he⟩
      | fails hl hbq ev hev =>
        refine ⟨fun _ => .again (by omega) (by omega) rfl (back_part (.inl (by rw [hk]; exact hp.part))) ?_ (Int.le_refl _) ?_, fun he => by omega⟩
        · rw [back_more, hk]; exact hmo.1
        · rw [back_more, hk, hcast]
          have hlb : lateV s t.Cost d n (backK t p) = lateV s t.Cost d n p := by
            unfold backK
            by_cases hm : t.Mode = 1
            · rw [if_pos hm]
            · have := (h.single hm).1
              rw [if_neg hm, late_none (by omega), late_none (by omega)]
          rw [hlb, ← hk]; omega
      | done hl hbq hkn => rw [hb] at hbq; simp at hbq
      | passed hl hbq hkn => rw [hb] at hbq; simp at hbq
    | again hz hf hb hk l1 l2 hi =>
      have hqf : q = false := by rw [hq]; exact decide_eq_false (by omega)
      cases st with
      | runs hl => exact ⟨fun _ => .again (by omega) hf (by rw [hqf, hb]; rfl) hk (by omega) (by omega) (by omega), fun he => by cases he⟩
      | fails hl hbq ev hev => rw [hqf, hb] at hbq; simp at hbq
      | done hl hbq hkn => rw [late_none hkn] at hi; exact ⟨fun he => absurd rfl he, fun _ => ⟨by omega, hf⟩⟩
      | passed hl hbq hkn =>
        have hln := h.len_next hkn
        have hpk : IsPart t n (k + 1) := .inl hkn
        have hpp := h.len hpk
        exact ⟨fun _ => .again (by omega) hf rfl hpk hpp.1 (Int.le_refl _) (by omega), fun he => by cases he⟩
  by_cases he : ev = 4
  · exact .inl ⟨he, key.2 he⟩
  · have hc := key.1 he
    have := hc.good h hp
    have hcast : ((i + 1 : Nat) : Int) = (i : Int) + 1 := by omega
    exact .inr ⟨he, by omega, hc⟩
end
end Go.Proofs.Ytbofpbochgoafaa
