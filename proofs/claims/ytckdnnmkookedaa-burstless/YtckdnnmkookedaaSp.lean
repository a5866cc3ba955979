/- Bursts as functions of lists: their beginnings, the least distance, how many faults lie between two times, how many bursts strike at most. -/
import Derived.Test.YtckdnnmkookedaaRows
namespace Go.Proofs.Ytckdnnmkookedaa
set_option linter.unusedVariables false

/-- Does a fault at x begin a burst, if the last one began at o? -/
def opensB (b : Int) : Option Int → Int → Bool
  | none, _ => true
  | some s, x => decide (b ≤ x - s)
/-- The beginnings of bursts, if the last one began at o. -/
def goS (b : Int) (o : Option Int) : List Int → List Int
  | [] => []
  | x :: t => if opensB b o x = true then x :: goS b (some x) t else goS b o t
/-- The last of a list, or what was ahead. -/
def lastO (o : Option Int) : List Int → Option Int
  | [] => o
  | x :: t => lastO (some x) t
theorem goS_app (b : Int) : ∀ (u v : List Int) (o : Option Int), goS b o (u ++ v) = goS b o u ++ goS b (lastO o (goS b o u)) v
  | [], v, o => rfl
  | x :: u, v, o => by
    simp only [List.cons_append, goS]
    split
    · rw [goS_app b u v (some x)]; rfl
    · exact goS_app b u v o
def startsF (b : Int) (l : List Int) : List Int := goS b none l
theorem lastO_snoc (o : Option Int) : ∀ (l : List Int) (x : Int), lastO o (l ++ [x]) = some x
  | [], x => rfl
  | y :: l, x => lastO_snoc (some y) l x
theorem lastO_at : ∀ (l : List Int) (o : Option Int), 0 < l.length → lastO o l = l[l.length - 1]?
  | [], o, h => by simp at h
  | [x], o, h => rfl
  | x :: y :: t, o, h => by
    have := lastO_at (y :: t) (some x) (by simp)
    simpa [lastO] using this
theorem take_snoc {l : List Int} {k : Nat} {x : Int} (h : l[k]? = some x) : l.take (k + 1) = l.take k ++ [x] := by
  rw [List.take_add_one, h]; rfl
theorem starts_next {b : Int} {l : List Int} {k : Nat} {x : Int} (h : l[k]? = some x) :
    startsF b (l.take (k + 1)) = startsF b (l.take k) ++ (if opensB b (lastO none (startsF b (l.take k))) x = true then [x] else []) := by
  unfold startsF
  rw [take_snoc h, goS_app]
  rfl
theorem goS_sub (b : Int) : ∀ (l : List Int) (o : Option Int) (x : Int), x ∈ goS b o l → x ∈ l
  | [], o, x, h => by simp [goS] at h
  | y :: l, o, x, h => by
    simp only [goS] at h
    split at h
    · rcases List.mem_cons.1 h with rfl | h
      · exact List.mem_cons_self
      · exact List.mem_cons_of_mem _ (goS_sub b l _ x h)
    · exact List.mem_cons_of_mem _ (goS_sub b l _ x h)
theorem goS_len (b : Int) : ∀ (l : List Int) (o : Option Int), (goS b o l).length ≤ l.length
  | [], o => Nat.le_refl _
  | y :: l, o => by
    simp only [goS]
    split
    · have := goS_len b l (some y); simp; omega
    · have := goS_len b l o; simp; omega
theorem starts_len (b : Int) (l : List Int) : (startsF b l).length ≤ l.length := goS_len b l none
theorem starts_sub {b : Int} {l : List Int} {x : Int} (h : x ∈ startsF b l) : x ∈ l := goS_sub b l none x h
theorem starts_part (b : Int) (l : List Int) (k : Nat) : ∃ v, startsF b l = startsF b (l.take k) ++ v := by
  refine ⟨goS b (lastO none (goS b none (l.take k))) (l.drop k), ?_⟩
  unfold startsF
  rw [← goS_app, List.take_append_drop]

/-- Each is g or more behind the one ahead. -/
def Apart (g : Int) : List Int → Prop
  | [] => True
  | [_] => True
  | x :: y :: t => g ≤ y - x ∧ Apart g (y :: t)
theorem goS_apart (b : Int) : ∀ (l : List Int) (o : Option Int), Apart b (goS b o l) ∧ ∀ s x, o = some s → (goS b o l).head? = some x → b ≤ x - s
  | [], o => ⟨trivial, fun s x _ h => by cases h⟩
  | y :: l, o => by
    simp only [goS]
    split
    · rename_i h
      obtain ⟨h1, h2⟩ := goS_apart b l (some y)
      refine ⟨?_, fun s x e hx => ?_⟩
      · cases hg : goS b (some y) l with
        | nil => trivial
        | cons z t => exact ⟨h2 y z rfl (by rw [hg]; rfl), by rw [← hg]; exact h1⟩
      · have : y = x := by simpa using hx
        subst this
        subst e
        simpa [opensB] using h
    · exact goS_apart b l o
theorem starts_apart (b : Int) (l : List Int) : Apart b (startsF b l) := (goS_apart b l none).1

/-- The least distance, m at most. -/
def gapL (m : Int) : List Int → Int
  | [] => m
  | [_] => m
  | x :: y :: t => gapL (min m (y - x)) (y :: t)
theorem gapL_next : ∀ (t : List Int) (m x y : Int), gapL m (t ++ [x, y]) = min (gapL m (t ++ [x])) (y - x)
  | [], m, x, y => rfl
  | [z], m, x, y => rfl
  | z :: w :: t, m, x, y => gapL_next (w :: t) (min m (w - z)) x y
theorem le_gapL : ∀ (l : List Int) (m g : Int), g ≤ gapL m l ↔ g ≤ m ∧ Apart g l
  | [], m, g => ⟨fun h => ⟨h, trivial⟩, fun h => h.1⟩
  | [x], m, g => ⟨fun h => ⟨h, trivial⟩, fun h => h.1⟩
  | x :: y :: t, m, g => by
    have := le_gapL (y :: t) (min m (y - x)) g
    simp only [gapL, Apart]
    rw [this]
    constructor
    · rintro ⟨h1, h2⟩; exact ⟨by omega, by omega, h2⟩
    · rintro ⟨h1, h2, h3⟩; exact ⟨by omega, h3⟩
theorem gapL_le (l : List Int) (m : Int) : gapL m l ≤ m := ((le_gapL l m _).1 (Int.le_refl _)).1
theorem Apart.less {g g' : Int} (hg : g' ≤ g) : ∀ {l : List Int}, Apart g l → Apart g' l
  | [], _ => trivial
  | [_], _ => trivial
  | _ :: y :: t, h => ⟨by have := h.1; omega, Apart.less hg h.2⟩
theorem Apart.part {g : Int} : ∀ {u v : List Int}, Apart g (u ++ v) → Apart g u
  | [], _, _ => trivial
  | [_], _, _ => trivial
  | _ :: y :: t, v, h => ⟨h.1, Apart.part (u := y :: t) h.2⟩
/-- The greatest gap of which faults are legal. -/
def gapF (b : Int) (l : List Int) : Int := gapL 1049576 (startsF b l)
theorem gapF_le (b : Int) (l : List Int) : gapF b l ≤ 1049576 := gapL_le _ _
theorem gapF_pos {b : Int} (h1 : 1 ≤ b) (l : List Int) : 1 ≤ gapF b l := (le_gapL _ _ _).2 ⟨by omega, (starts_apart b l).less h1⟩
theorem gapF_part (b : Int) (l : List Int) (k : Nat) : gapF b l ≤ gapF b (l.take k) := by
  obtain ⟨v, hv⟩ := starts_part b l k
  obtain ⟨h1, h2⟩ := (le_gapL _ _ _).1 (Int.le_refl (gapF b l))
  refine (le_gapL _ _ _).2 ⟨h1, ?_⟩
  rw [hv] at h2
  exact h2.part
/-- Is the distance at some place less, the whole's least is. -/
theorem apart_at {g : Int} : ∀ {l : List Int} {i : Nat} {x y : Int}, Apart g l → l[i]? = some x → l[i + 1]? = some y → g ≤ y - x
  | [], i, x, y, _, h, _ => by simp at h
  | [z], i, x, y, _, _, h => by simp at h
  | z :: w :: t, 0, x, y, ha, h1, h2 => by
    have e1 : z = x := by simpa using h1
    have e2 : w = y := by simpa using h2
    subst e1; subst e2; exact ha.1
  | z :: w :: t, i + 1, x, y, ha, h1, h2 => apart_at (l := w :: t) (i := i) ha.2 (by simpa using h1) (by simpa using h2)

/-- So many of l lie from u on, below v. -/
def inF (u v : Int) (l : List Int) : Nat := l.countP (fun x => decide (u ≤ x ∧ x < v))
theorem inF_next {u v : Int} {l : List Int} {k : Nat} {x : Int} (h : l[k]? = some x) : inF u v (l.take (k + 1)) = inF u v (l.take k) + (if u ≤ x ∧ x < v then 1 else 0) := by
  unfold inF
  rw [take_snoc h, List.countP_append, List.countP_singleton]
  simp
theorem inF_le (u v : Int) (l : List Int) : inF u v l ≤ l.length := List.countP_le_length
theorem inF_more {u v v' : Int} (h : v ≤ v') (l : List Int) : inF u v l ≤ inF u v' l := by
  unfold inF
  refine List.countP_mono_left (fun x _ hx => ?_)
  simp at hx ⊢
  omega

/-- So many bursts have a fault in w ticks, at most. -/
def mostF (w b g : Int) : Int := if w = 0 then 0 else (w + b - 2) / g + 1
theorem mostF_zero (b g : Int) : mostF 0 b g = 0 := rfl
theorem mostF_pos {w : Int} (h : 1 ≤ w) (b g : Int) : mostF w b g = (w + b - 2) / g + 1 := by unfold mostF; rw [if_neg (by omega)]
theorem mostF_nonneg {w b g : Int} (h0 : 0 ≤ w) (hb : 1 ≤ b) (hg : 1 ≤ g) : 0 ≤ mostF w b g := by
  unfold mostF
  split
  · omega
  · have := Int.ediv_nonneg (a := w + b - 2) (b := g) (by omega) (by omega); omega
theorem mostF_most {w b g : Int} (h0 : 0 ≤ w) (hb : 1 ≤ b) (hg : 1 ≤ g) : mostF w b g ≤ w + b := by
  unfold mostF
  split
  · omega
  · have := Int.ediv_le_self (a := w + b - 2) g (by omega); omega
theorem mostF_more {w b g : Int} (h0 : 0 ≤ w) (hb : 1 ≤ b) (hg : 1 ≤ g) : mostF w b g ≤ mostF (w + 1) b g := by
  by_cases hw : w = 0
  · subst hw
    rw [mostF_zero]
    exact mostF_nonneg (by omega) hb hg
  · rw [mostF_pos (by omega), mostF_pos (by omega)]
    have := Int.ediv_le_ediv (c := g) (a := w + b - 2) (b := w + 1 + b - 2) (by omega) (by omega)
    omega
theorem mostF_less {w b g k : Int} (h0 : 0 ≤ w) (hb : 1 ≤ b) (hk : 1 ≤ k) (hkg : k ≤ g) : mostF w b g ≤ mostF w b k := by
  by_cases hw : w = 0
  · subst hw; exact Int.le_refl _
  · rw [mostF_pos (by omega), mostF_pos (by omega)]
    have h1 : 0 ≤ (w + b - 2) / g := Int.ediv_nonneg (by omega) (by omega)
    have h2 : (w + b - 2) / g * g ≤ w + b - 2 := Int.ediv_mul_le _ (by omega)
    have h3 : (w + b - 2) / g * k ≤ (w + b - 2) / g * g := Int.mul_le_mul_of_nonneg_left hkg h1
    have h4 : (w + b - 2) / g ≤ (w + b - 2) / k := (Int.le_ediv_iff_mul_le (by omega)).2 (by omega)
    omega
/-- The quotient rounded up, as tick has it. -/
theorem ceil_eq {a g : Int} (ha : 1 ≤ a) (hg : 1 ≤ g) : (a - 1) / g + 1 = a / g + (if 0 < a % g then 1 else 0) := by
  have e1 := Int.mul_ediv_add_emod a g
  have e2 := Int.mul_ediv_add_emod (a - 1) g
  have r1 := Int.emod_nonneg a (b := g) (by omega)
  have r2 := Int.emod_lt_of_pos a (b := g) (by omega)
  split
  · have : (a - 1) / g = a / g := by
      have h : a - 1 = (a % g - 1) + g * (a / g) := by omega
      rw [h, Int.add_mul_ediv_left _ _ (by omega), Int.ediv_eq_zero_of_lt (by omega) (by omega)]
      omega
    omega
  · have : (a - 1) / g = a / g - 1 := by
      have h : a - 1 = (g - 1) + g * (a / g - 1) := by rw [Int.mul_sub, Int.mul_one]; omega
      rw [h, Int.add_mul_ediv_left _ _ (by omega), Int.ediv_eq_zero_of_lt (by omega) (by omega)]
      omega
    omega
end Go.Proofs.Ytckdnnmkookedaa
