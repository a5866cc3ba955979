/- How tasks' places compare: by priority. Places in a row of the call's own. -/
import Derived.Test.YtklnokhabomnfaaFw
namespace Go.Proofs.Ytklnokhabomnfaa
open Go.RowKit

def cmpV (x y : Int) : Int := if x < y then -1 else if y < x then 1 else 0
set_option maxHeartbeats 400000 in
theorem nanNo (x : Int) (w : World) : Calls Try.prog 37 #[.int .i64 x] w (Says (.bool false) w) := by
  have e : (x != x) = false := by simp
  go_enter Try.func37, Try.ntmps37
  go_wp2
  go_ret
  exact ⟨rfl, rfl⟩
set_option maxHeartbeats 1000000 in
theorem cmpCalls (x y : Int) (w : World) : Calls Try.prog 30 #[.int .i64 x, .int .i64 y] w (Says (.int .i64 (cmpV x y)) w) := by
  have H1 := Lib.hid (fun W => nanNo x W)
  have H2 := Lib.hid (fun W => nanNo y W)
  by_cases h : x < y
  · have HV := Lib.hid (show cmpV x y = -1 by simp [cmpV, h])
    have d1 : decide (x < y) = true := decide_eq_true h
    go_enter Try.func30, Try.ntmps30
    go_wp2_with (fail)
    with_reducible refine (H1.out _).mono ?_
    rintro e w' ⟨rfl, rfl⟩
    go_wp2_with (fail)
    with_reducible refine (H2.out _).mono ?_
    rintro e w' ⟨rfl, rfl⟩
    go_wp2
    go_ret
    exact ⟨by rw [HV.out]; rfl, rfl⟩
  · have d1 : decide (x < y) = false := decide_eq_false h
    by_cases h' : y < x
    · have HV := Lib.hid (show cmpV x y = 1 by simp [cmpV, h, h'])
      have d2 : decide (y < x) = true := decide_eq_true h'
      go_enter Try.func30, Try.ntmps30
      go_wp2_with (fail)
      with_reducible refine (H1.out _).mono ?_
      rintro e w' ⟨rfl, rfl⟩
      go_wp2_with (fail)
      with_reducible refine (H2.out _).mono ?_
      rintro e w' ⟨rfl, rfl⟩
      go_wp2
      go_ret
      exact ⟨by rw [HV.out]; rfl, rfl⟩
    · have HV := Lib.hid (show cmpV x y = 0 by simp [cmpV, h, h'])
      have d2 : decide (y < x) = false := decide_eq_false h'
      go_enter Try.func30, Try.ntmps30
      go_wp2_with (fail)
      with_reducible refine (H1.out _).mono ?_
      rintro e w' ⟨rfl, rfl⟩
      go_wp2_with (fail)
      with_reducible refine (H2.out _).mono ?_
      rintro e w' ⟨rfl, rfl⟩
      go_wp2
      go_ret
      exact ⟨by rw [HV.out]; rfl, rfl⟩

set_option maxHeartbeats 1000000 in
theorem order1 (b : Int) (l : List Tk) (a : Option Addr) (cap s i j : Nat) {ti tj : Tk} {w : World} (ht : Tasks w a cap l) (hs : Lies w s 24 #[.int .i64 b, .slice a l.length cap]) (hi : l[i]? = some ti) (hj : l[j]? = some tj) :
    Calls Try.prog 29 #[.int .i64 (i : Int), .int .i64 (j : Int), .pointer (some ⟨s, 0, none⟩)] w (Saw (.int .i64 (cmpV ti.Prio tj.Prio)) w) := by
  have hil := (List.getElem?_eq_some_iff.1 hi).1
  have hjl := (List.getElem?_eq_some_iff.1 hj).1
  obtain ⟨bb, off, rfl, _, _, _, _, _, _, _, _, _, _, _, pi⟩ := ht.cells hi
  obtain ⟨b2, o2, e2, _, _, _, _, _, _, _, _, _, _, _, pj⟩ := ht.cells hj
  cases e2
  have c1 : w.cell? ⟨s, 1, none⟩ = some (.slice (some ⟨bb, off, none⟩) l.length cap) := hs.cell 1
  clear ht hs hi hj
  generalize ti.Prio = p at pi ⊢
  generalize tj.Prio = q at pj ⊢
  have KC := Lib.hid (fun W => cmpCalls p q W)
  generalize cmpV p q = r at KC ⊢
  go_enter Try.func29, Try.ntmps29
  go_wp2
  go_quiet (exact (KC.out _).mono fun _ _ h => ⟨h.1, _, h.2.symm⟩)
  go_wp2
  go_ret
  exact ⟨rfl, _, rfl⟩

/-- Block g is a row of n numbers, o. -/
def Nums (w : World) (g n : Nat) (o : Nat → Nat) : Prop := ∃ cs : Array Value, Lies w g 3 cs ∧ cs.size = n ∧ ∀ i, i < n → cs[i]? = some (.int .i64 (o i : Int))
def upd (o : Nat → Nat) (k v : Nat) : Nat → Nat := fun i => if i = k then v else o i
section
variable {w w' : World} {g n : Nat} {o : Nat → Nat}
theorem Nums.cell (h : Nums w g n o) {i : Nat} (hi : i < n) : w.cell? ⟨g, i, none⟩ = some (.int .i64 (o i : Int)) := by
  obtain ⟨cs, h1, _, h3⟩ := h
  rw [h1.cell]; exact h3 i hi
theorem Nums.thawed (h : Nums w g n o) (i : Nat) : w.frozen? ⟨g, i, none⟩ = false := by
  obtain ⟨cs, h1, _, _⟩ := h
  exact h1.thawed i
theorem Nums.lt (h : Nums w g n o) : g < w.heap.size := by
  obtain ⟨cs, h1, _, _⟩ := h
  exact h1.lt
theorem Nums.drewN (h : Nums w g n o) (m : Nat) : Nums (w.drewN m) g n o := h
theorem Nums.put (h : Nums w g n o) (k v : Nat) : Nums (w.setCell ⟨g, k, none⟩ (.int .i64 (v : Int))) g n (upd o k v) := by
  obtain ⟨cs, h1, h2, h3⟩ := h
  refine ⟨_, h1.here k _, by simp [h2], fun i hi => ?_⟩
  unfold upd
  rw [Array.getElem?_setIfInBounds]
  by_cases hik : k = i
  · rw [if_pos hik, if_pos (by omega), if_pos hik.symm]
  · rw [if_neg hik, if_neg (fun e => hik e.symm)]; exact h3 i hi
theorem Nums.same (h : Nums w g n o) {o' : Nat → Nat} (he : ∀ i, i < n → o i = o' i) : Nums w g n o' := by
  obtain ⟨cs, h1, h2, h3⟩ := h
  exact ⟨cs, h1, h2, fun i hi => by rw [← he i hi]; exact h3 i hi⟩
theorem Nums.below {B : Nat} (h : Nums w g n o) (hb : Below B w w') (hB : g < B) : Nums w' g n o := by
  obtain ⟨cs, h1, h2, h3⟩ := h
  exact ⟨cs, h1.below hb hB, h2, h3⟩
end

/-- Places: below n, no two alike. -/
def Places (n : Nat) (o : Nat → Nat) : Prop := (∀ i, i < n → o i < n) ∧ ∀ i j, i < n → j < n → o i = o j → i = j
/-- The first i are in order; but the one at j (at most i) may be too far behind. -/
def Nearly (f : Nat → Int) (o : Nat → Nat) (j i : Nat) : Prop := ∀ a b, a < b → b ≤ i → b ≠ j → f (o a) ≤ f (o b)
def Order (f : Nat → Int) (o : Nat → Nat) (i : Nat) : Prop := ∀ a b, a < b → b < i → f (o a) ≤ f (o b)
def swp (o : Nat → Nat) (j : Nat) : Nat → Nat := upd (upd o j (o (j - 1))) (j - 1) (o j)
section
variable {f : Nat → Int} {o : Nat → Nat} {n i j : Nat}
theorem swp_at (o : Nat → Nat) (j k : Nat) : swp o j k = if k = j - 1 then o j else if k = j then o (j - 1) else o k := rfl
theorem Places.swap (h : Places n o) (h0 : 0 < j) (hj : j < n) : Places n (swp o j) := by
  refine ⟨fun k hk => ?_, fun a b ha hb he => ?_⟩
  · rw [swp_at]
    split
    · exact h.1 _ hj
    · split
      · exact h.1 _ (by omega)
      · exact h.1 _ hk
  · rw [swp_at, swp_at] at he
    have K := fun x y hx hy e => h.2 x y hx hy e
    split at he <;> split at he <;> (try split at he) <;> (try split at he) <;> (have := K _ _ (by omega) (by omega) he; omega)
theorem Nearly.start (h : Order f o i) : Nearly f o i i := fun a b hab hb hne => h a b hab (by omega)
theorem Nearly.swap (h : Nearly f o j i) (h0 : 0 < j) (hj : j ≤ i) (hlt : f (o j) < f (o (j - 1))) : Nearly f (swp o j) (j - 1) i := by
  intro a b hab hb hne
  rw [swp_at, swp_at, if_neg hne]
  by_cases hbj : b = j
  · rw [if_pos hbj]
    by_cases ha : a = j - 1
    · rw [if_pos ha]; omega
    · rw [if_neg ha, if_neg (by omega)]
      exact h a (j - 1) (by omega) (by omega) (by omega)
  · rw [if_neg hbj]
    by_cases ha : a = j - 1
    · rw [if_pos ha]
      exact h j b (by omega) hb hbj
    · rw [if_neg ha]
      by_cases ha2 : a = j
      · rw [if_pos ha2]
        exact h (j - 1) b (by omega) hb hbj
      · rw [if_neg ha2]
        exact h a b hab hb hbj
theorem Nearly.ends (h : Nearly f o j i) (hj : j ≤ i) (hs : j = 0 ∨ f (o (j - 1)) ≤ f (o j)) : Order f o (i + 1) := by
  intro a b hab hb
  by_cases hbj : b = j
  · rcases hs with h0 | hle
    · omega
    · subst hbj
      by_cases ha : a = b - 1
      · rw [ha]; exact hle
      · have := h a (b - 1) (by omega) (by omega) (by omega)
        omega
  · exact h a b hab (by omega) hbj
end
end Go.Proofs.Ytklnokhabomnfaa
