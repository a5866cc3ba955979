/- The recurrence, plain: the dearest failing part, what may be called ahead, what is made of a time. -/
import Derived.Test.YtklnokhabomnfaaFx
import Derived.Test.YtklnokhabomnfaaBl
import Derived.Test.YtklnokhabomnfaaMp
namespace Go.Proofs.Ytklnokhabomnfaa

/-- The greatest Extra of those that are asked for; 0 of none. -/
def maxE (q : Tk → Bool) (l : List Tk) : Int := l.foldl (fun m t => if q t = true then max m (extraV t) else m) 0
theorem extra_nums {t : Tk} (h : Fine t) : 1 ≤ extraV t ∧ extraV t ≤ 1049576 := by
  obtain ⟨b1, b2, b3, b4, _, _⟩ := h.nums
  unfold extraV
  rcases h.again with ⟨m, _, _⟩ | ⟨m, _, _⟩
  · rw [if_pos m]; omega
  · rw [if_neg (by omega)]; omega
section
variable {q q' : Tk → Bool} {l : List Tk} {k : Nat} {t : Tk}
theorem maxE_nil : maxE q [] = 0 := rfl
theorem maxE_snoc : maxE q (l ++ [t]) = if q t = true then max (maxE q l) (extraV t) else maxE q l := by
  unfold maxE; rw [List.foldl_append]; rfl
theorem maxE_next (h : l[k]? = some t) : maxE q (l.take (k + 1)) = if q t = true then max (maxE q (l.take k)) (extraV t) else maxE q (l.take k) := by
  rw [take_next h, maxE_snoc]
theorem fold_range (h : ∀ t ∈ l, Fine t) : ∀ m : Int, 0 ≤ m → m ≤ 1049576 → 0 ≤ l.foldl (fun m t => if q t = true then max m (extraV t) else m) m ∧ l.foldl (fun m t => if q t = true then max m (extraV t) else m) m ≤ 1049576 := by
  induction l with
  | nil => intro m h0 h1; exact ⟨h0, h1⟩
  | cons t l ih =>
    intro m h0 h1
    have := extra_nums (h t List.mem_cons_self)
    refine ih (fun u hu => h u (List.mem_cons_of_mem _ hu)) _ ?_ ?_ <;> dsimp only <;> split <;> omega
theorem maxE_range (h : ∀ t ∈ l, Fine t) : 0 ≤ maxE q l ∧ maxE q l ≤ 1049576 := fold_range h 0 (by omega) (by omega)
theorem fold_cong (h : ∀ t ∈ l, q t = q' t) : ∀ m : Int, l.foldl (fun m t => if q t = true then max m (extraV t) else m) m = l.foldl (fun m t => if q' t = true then max m (extraV t) else m) m := by
  induction l with
  | nil => intro m; rfl
  | cons t l ih =>
    intro m
    rw [List.foldl_cons, List.foldl_cons, h t List.mem_cons_self]
    exact ih (fun u hu => h u (List.mem_cons_of_mem _ hu)) _
theorem maxE_cong (h : ∀ t ∈ l, q t = q' t) : maxE q l = maxE q' l := fold_cong h 0
theorem fine_take (h : ∀ t ∈ l, Fine t) : ∀ t ∈ l.take k, Fine t := fun t ht => h t (List.mem_of_mem_take ht)
end
def dearQ (p : Int) (t : Tk) : Bool := decide (t.Prio ≤ p) || decide (t.Mode = 3)
def aheadQ (p : Int) (t : Tk) : Bool := decide (p ≤ t.Prio) && decide (t.Mode = 3)
/-- The tasks above: whole demands and periods. -/
def abL (p : Int) (l : List Tk) : List (Int × Int) := (l.filter (fun t => decide (t.Prio < p))).map (fun t => (wholeV t, t.T))
def sumA (w : Int) (L : List (Int × Int)) : Int := (L.map (fun x => (w + x.2 - 1) / x.2 * x.1)).sum
theorem sumA_nil (w : Int) : sumA w [] = 0 := rfl
theorem sumA_snoc (w : Int) (L : List (Int × Int)) (x : Int × Int) : sumA w (L ++ [x]) = sumA w L + (w + x.2 - 1) / x.2 * x.1 := by
  unfold sumA; rw [List.map_append, List.sum_append]; simp
theorem sumA_next {w : Int} {L : List (Int × Int)} {k : Nat} {x : Int × Int} (h : L[k]? = some x) : sumA w (L.take (k + 1)) = sumA w (L.take k) + (w + x.2 - 1) / x.2 * x.1 := by
  rw [List.take_add_one, h]; exact sumA_snoc w _ _
theorem abL_snoc (p : Int) (l : List Tk) (t : Tk) : abL p (l ++ [t]) = abL p l ++ (if t.Prio < p then [(wholeV t, t.T)] else []) := by
  unfold abL
  rw [List.filter_append, List.map_append]
  by_cases h : t.Prio < p
  · rw [if_pos h, List.filter_cons_of_pos (by simpa using h)]; rfl
  · rw [if_neg h, List.filter_cons_of_neg (by simpa using h)]; rfl
theorem abL_next {p : Int} {l : List Tk} {k : Nat} {t : Tk} (h : l[k]? = some t) : abL p (l.take (k + 1)) = abL p (l.take k) ++ (if t.Prio < p then [(wholeV t, t.T)] else []) := by
  rw [take_next h, abL_snoc]
theorem abL_len (p : Int) (l : List Tk) : (abL p l).length ≤ l.length := by
  unfold abL; rw [List.length_map]; exact List.length_filter_le _ _
/-- Small whole demands and periods. -/
def SmA (L : List (Int × Int)) : Prop := ∀ x ∈ L, 1 ≤ x.1 ∧ x.1 ≤ 1049624576 ∧ 1 ≤ x.2 ∧ x.2 ≤ 1048576
theorem abL_small {p : Int} {l : List Tk} (h : ∀ t ∈ l, Fine t) : SmA (abL p l) := by
  intro x hx
  obtain ⟨t, ht, rfl⟩ := List.mem_map.1 hx
  have hf := h t (List.mem_filter.1 ht).1
  have h1 := whole_nums hf
  have h2 := hf.nums
  exact ⟨by omega, h1.2, h2.2.2.2.2.1, h2.2.2.2.2.2⟩
theorem ceil_range {w T : Int} (h0 : 0 ≤ w) (hT : 1 ≤ T) : 0 ≤ (w + T - 1) / T ∧ (w + T - 1) / T ≤ w := by
  refine ⟨Int.ediv_nonneg (by omega) (by omega), ?_⟩
  have : (w + T - 1) / T < w + 1 := Int.ediv_lt_of_lt_mul (by omega) (by
    have := Int.mul_le_mul_of_nonneg_left hT h0
    rw [Int.add_mul]; omega)
  omega
theorem ceil_mono {w v T : Int} (h : w ≤ v) (hT : 1 ≤ T) : (w + T - 1) / T ≤ (v + T - 1) / T := Int.ediv_le_ediv (by omega) (by omega)
theorem term_range {w W T : Int} (h0 : 0 ≤ w) (h1 : w ≤ 1048576) (hW0 : 1 ≤ W) (hW1 : W ≤ 1049624576) (hT : 1 ≤ T) : 0 ≤ (w + T - 1) / T * W ∧ (w + T - 1) / T * W ≤ 1100611139403776 := by
  have h := ceil_range h0 hT
  refine ⟨Int.mul_nonneg h.1 (by omega), ?_⟩
  have := Int.mul_le_mul (a := (w + T - 1) / T) (b := W) (c := 1048576) (d := 1049624576) (by omega) hW1 (by omega) (by omega)
  omega
theorem sumA_range {w : Int} (h0 : 0 ≤ w) (h1 : w ≤ 1048576) : ∀ {L : List (Int × Int)}, SmA L → 0 ≤ sumA w L ∧ sumA w L ≤ (L.length : Int) * 1100611139403776
  | [], _ => by simp [sumA]
  | x :: L, h => by
    have hx := h x List.mem_cons_self
    have h2 := sumA_range h0 h1 (L := L) (fun y hy => h y (List.mem_cons_of_mem _ hy))
    have h3 := term_range h0 h1 hx.1 hx.2.1 hx.2.2.1
    have e : sumA w (x :: L) = (w + x.2 - 1) / x.2 * x.1 + sumA w L := by simp [sumA]
    rw [e, List.length_cons]
    omega
theorem sumA_mono {w v : Int} (h : w ≤ v) : ∀ {L : List (Int × Int)}, SmA L → sumA w L ≤ sumA v L
  | [], _ => Int.le_refl _
  | x :: L, hL => by
    have hx := hL x List.mem_cons_self
    have h2 := sumA_mono h (L := L) (fun y hy => hL y (List.mem_cons_of_mem _ hy))
    have h3 := Int.mul_le_mul_of_nonneg_right (ceil_mono h hx.2.2.1) (show 0 ≤ x.1 by omega)
    have e : ∀ u, sumA u (x :: L) = (u + x.2 - 1) / x.2 * x.1 + sumA u L := fun u => by simp [sumA]
    rw [e, e]
    omega
theorem SmA.take {L : List (Int × Int)} (h : SmA L) (k : Nat) : SmA (L.take k) := fun x hx => h x (List.mem_of_mem_take hx)

/-- What doesn't hang on the time. -/
def onceV (l : List Tk) (o : Tk) : Int := wholeV o + maxE (aheadQ o.Prio) l
def struckV (b : Int) (l : List Tk) (o : Tk) : Int := b * maxE (dearQ o.Prio) l
/-- What the recurrence makes of w. -/
def nextV (b : Int) (l : List Tk) (o : Tk) (g w : Int) : Int := onceV l o + mostF w b g * struckV b l o + sumA w (abL o.Prio l)
section
variable {b g w : Int} {l : List Tk} {o : Tk}
theorem once_range (hf : ∀ t ∈ l, Fine t) (ho : Fine o) : wholeV o ≤ onceV l o ∧ 1 ≤ onceV l o ∧ onceV l o ≤ 1050674152 := by
  have h1 := maxE_range (q := aheadQ o.Prio) hf
  have h2 := whole_nums ho
  have h3 := ho.nums
  unfold onceV
  omega
theorem struck_range (hb : 1 ≤ b) (hb1 : b ≤ 1000) (hf : ∀ t ∈ l, Fine t) : 0 ≤ struckV b l o ∧ struckV b l o ≤ 1049576000 := by
  have h1 := maxE_range (q := dearQ o.Prio) hf
  unfold struckV
  refine ⟨Int.mul_nonneg (by omega) h1.1, ?_⟩
  have := Int.mul_le_mul hb1 h1.2 h1.1 (by omega)
  omega
theorem most_range (h0 : 0 ≤ w) (h1 : w ≤ 1048576) (hb : 1 ≤ b) (hb1 : b ≤ 1000) (hg : 1 ≤ g) : 0 ≤ mostF w b g ∧ mostF w b g ≤ 1049576 := by
  have := mostF_most (w := w) h0 hb hg
  exact ⟨mostF_nonneg h0 hb hg, by omega⟩
theorem hit_range {m s : Int} (h0 : 0 ≤ m) (h1 : m ≤ 1049576) (s0 : 0 ≤ s) (s1 : s ≤ 1049576000) : 0 ≤ m * s ∧ m * s ≤ 1101609779776000 := by
  refine ⟨Int.mul_nonneg h0 s0, ?_⟩
  have := Int.mul_le_mul h1 s1 s0 (by omega)
  omega
theorem next_range (h0 : 0 ≤ w) (h1 : w ≤ 1048576) (hb : 1 ≤ b) (hb1 : b ≤ 1000) (hg : 1 ≤ g) (hf : ∀ t ∈ l, Fine t) (ho : Fine o) (hl : l.length ≤ 20) : wholeV o ≤ nextV b l o g w ∧ 1 ≤ nextV b l o g w ∧ nextV b l o g w ≤ 30000000000000000 := by
  have a1 := once_range hf ho
  have a2 := struck_range (o := o) hb hb1 hf
  have a3 := most_range h0 h1 hb hb1 hg
  have a4 := hit_range a3.1 a3.2 a2.1 a2.2
  have a5 := sumA_range h0 h1 (abL_small (p := o.Prio) hf)
  have a6 := abL_len o.Prio l
  unfold nextV
  generalize mostF w b g * struckV b l o = x at *
  omega
theorem most_mono {v : Int} (h0 : 0 ≤ w) (h : w ≤ v) (hb : 1 ≤ b) (hg : 1 ≤ g) : mostF w b g ≤ mostF v b g := by
  obtain ⟨n, rfl⟩ : ∃ n : Nat, v = w + n := ⟨(v - w).toNat, by omega⟩
  clear h
  induction n with
  | zero => simp
  | succ n ih =>
    have := mostF_more (w := w + n) (b := b) (g := g) (by omega) hb hg
    rw [show w + ((n + 1 : Nat) : Int) = w + (n : Int) + 1 by omega]
    omega
theorem next_mono (hb : 1 ≤ b) (hb1 : b ≤ 1000) (hg : 1 ≤ g) (hf : ∀ t ∈ l, Fine t) : Mono (nextV b l o g) := by
  intro x y h0 h
  have a2 := struck_range (o := o) hb hb1 hf
  have a1 := sumA_mono h (abL_small (p := o.Prio) hf)
  have a3 := Int.mul_le_mul_of_nonneg_right (most_mono h0 h hb hg) a2.1
  unfold nextV
  omega
theorem next_gap {k : Int} (h0 : 0 ≤ w) (hb : 1 ≤ b) (hb1 : b ≤ 1000) (hg : 1 ≤ g) (hgk : g ≤ k) (hf : ∀ t ∈ l, Fine t) : nextV b l o k w ≤ nextV b l o g w := by
  have a2 := struck_range (o := o) hb hb1 hf
  have a3 := Int.mul_le_mul_of_nonneg_right (mostF_less (w := w) h0 hb hg hgk) a2.1
  unfold nextV
  omega
theorem next_burst {c : Int} (h0 : 0 ≤ w) (hb : 1 ≤ b) (hbc : b ≤ c) (hc : c ≤ 1000) (hg : 1 ≤ g) (hf : ∀ t ∈ l, Fine t) : nextV b l o g w ≤ nextV c l o g w := by
  have h1 := maxE_range (q := dearQ o.Prio) hf
  have a1 : struckV b l o ≤ struckV c l o := Int.mul_le_mul_of_nonneg_right hbc h1.1
  have a2 := struck_range (o := o) hb (by omega) hf
  have a4 : mostF w b g ≤ mostF w c g := by
    by_cases hw : w = 0
    · subst hw; exact Int.le_refl _
    · rw [mostF_pos (by omega), mostF_pos (by omega)]
      have := Int.ediv_le_ediv (c := g) (a := w + b - 2) (b := w + c - 2) (by omega) (by omega)
      omega
  have a5 := Int.mul_le_mul a4 a1 a2.1 (mostF_nonneg h0 (show 1 ≤ c by omega) hg)
  unfold nextV
  omega
/-- A task below that isn't Backup changes nothing. -/
theorem next_below {t : Tk} (h1 : o.Prio < t.Prio) (h2 : t.Mode ≠ 3) : maxE (dearQ o.Prio) (l ++ [t]) = maxE (dearQ o.Prio) l ∧ maxE (aheadQ o.Prio) (l ++ [t]) = maxE (aheadQ o.Prio) l ∧ ∀ w, nextV b (l ++ [t]) o g w = nextV b l o g w := by
  have e1 : maxE (dearQ o.Prio) (l ++ [t]) = maxE (dearQ o.Prio) l := by
    rw [maxE_snoc, if_neg]; simp [dearQ]; omega
  have e2 : maxE (aheadQ o.Prio) (l ++ [t]) = maxE (aheadQ o.Prio) l := by
    rw [maxE_snoc, if_neg]; simp [aheadQ]; omega
  refine ⟨e1, e2, fun w => ?_⟩
  unfold nextV onceV struckV
  rw [e1, e2, abL_snoc, if_neg (by omega), List.append_nil]
/-- A task alone, a great gap. -/
theorem next_alone (ho : Fine o) (h0 : 1 ≤ w) (h1 : w ≤ 3000) (hb : 1 ≤ b) (hb1 : b ≤ 1000) : nextV b [o] o 1049576 w = wholeV o + (if o.Mode = 3 then extraV o else 0) + b * extraV o := by
  have he := extra_nums ho
  have e1 : maxE (dearQ o.Prio) [o] = extraV o := by
    have : maxE (dearQ o.Prio) ([] ++ [o]) = extraV o := by rw [maxE_snoc, if_pos (by simp [dearQ]), maxE_nil]; omega
    simpa using this
  have e2 : maxE (aheadQ o.Prio) [o] = if o.Mode = 3 then extraV o else 0 := by
    have : maxE (aheadQ o.Prio) ([] ++ [o]) = if o.Mode = 3 then extraV o else 0 := by
      rw [maxE_snoc, maxE_nil]
      by_cases hm : o.Mode = 3
      · rw [if_pos (by simp [aheadQ, hm]), if_pos hm]; omega
      · rw [if_neg (by simp [aheadQ, hm]), if_neg hm]
    simpa using this
  have e3 : mostF w b 1049576 = 1 := by
    rw [mostF_pos h0, Int.ediv_eq_zero_of_lt (by omega) (by omega)]; rfl
  have e4 : abL o.Prio [o] = [] := by simp [abL]
  unfold nextV onceV struckV
  rw [e1, e2, e3, e4, sumA_nil]
  omega
end
end Go.Proofs.Ytklnokhabomnfaa
