/- A task's line, in plain words; its numbers' places; a first word and a task more. -/
import Derived.Test.YtbijgmaeechmoaaDoorRb
namespace Go.Proofs.YtbijgmaeechmoaaDoor
open Go.RowKit Lx Kx
set_option maxRecDepth 100000

/-- The first i tokens from k on are as they are asked. -/
def AskedT (ts : List Tok) (k i : Nat) : Prop := ∀ j, j < i → ∃ u, ts[k + j]? = some u ∧ askT j u = true
section
variable {ts : List Tok} {k i m : Nat} {t n : Tok} {hs : List Tok} {l : List Tk}
theorem AskedT.nil : AskedT ts k 0 := fun j hj => by omega
theorem AskedT.snoc (h : AskedT ts k i) (hk : ts[k + i]? = some t) (ha : askT i t = true) : AskedT ts k (i + 1) := fun j hj => by
  by_cases e : j < i
  · exact h j e
  · obtain rfl : j = i := by omega
    exact ⟨t, hk, ha⟩
theorem AskedT.nums (h : AskedT ts k i) (hn : ∀ j, j < m → ∃ t, ts[k + i + j]? = some t ∧ t.kind = 2) (hi : ∀ j, j < m → (i + j = 2 ∨ i + j = 3 ∨ i + j = 4 ∨ i + j = 6 ∨ i + j = 7 ∨ i + j = 8 ∨ i + j = 9 ∨ i + j = 10 ∨ i + j = 11)) : AskedT ts k (i + m) := fun j hj => by
  by_cases e : j < i
  · exact h j e
  · obtain ⟨t, h1, h2⟩ := hn (j - i) (by omega)
    refine ⟨t, by rw [show k + j = k + i + (j - i) by omega]; exact h1, ?_⟩
    have := hi (j - i) (by omega)
    rw [show i + (j - i) = j by omega] at this
    rw [askT_num this]; exact decide_eq_true h2
theorem AskedT.run (h : AskedT ts k i) (hi : i ≤ 12) (hk : k + i ≤ ts.length) : runT n (ts.drop k) [] hs l = runT n (ts.drop (k + i)) ((ts.drop k).take i) hs l ∧ ((ts.drop k).take i).length = i := by
  have hl : ((ts.drop k).take i).length = i := by simp; omega
  have e : ts.drop k = (ts.drop k).take i ++ ts.drop (k + i) := by
    rw [← List.drop_drop]; exact (List.take_append_drop i _).symm
  refine ⟨?_, hl⟩
  have := runT_all (n := n) (hs := hs) (l := l) ((ts.drop k).take i) (cur := []) (r := ts.drop (k + i)) (fun j u hu => by
    rw [List.getElem?_take] at hu
    split at hu
    · next hj =>
      rw [List.getElem?_drop] at hu
      obtain ⟨u', h1, h2⟩ := h j hj
      rw [hu] at h1
      cases h1
      simpa using h2
    · cases hu) (by rw [hl]; simpa using hi)
  rw [← e, List.nil_append] at this
  exact this
theorem AskedT.bad (h : AskedT ts k i) (hi : i ≤ 12) (hk : ts[k + i]? = some t) (ha : askT i t = false) (h0 : i = 0 → t.kind ≠ 3 ∧ t.kind ≠ 4) : runT n (ts.drop k) [] hs l = .bad t := by
  have hlt := (List.getElem?_eq_some_iff.1 hk).1
  obtain ⟨h1, h2⟩ := h.run (n := n) (hs := hs) (l := l) hi (by omega)
  rw [h1, drop_tok hk, runT_bad (by rw [h2]; exact ha) (by rw [h2]; exact h0)]
theorem AskedT.line (h : AskedT ts k 12) (hk : ts[k + 12]? = some t) (ht : t.kind = 3) : runT n (ts.drop k) [] hs l = runT n (ts.drop (k + 12 + 1)) [] (hs ++ [((ts.drop k).take 12).getD 0 noT]) (l ++ [taskOf ((ts.drop k).take 12)]) := by
  have hlt := (List.getElem?_eq_some_iff.1 hk).1
  obtain ⟨h1, h2⟩ := h.run (n := n) (hs := hs) (l := l) (by omega) (by omega)
  rw [h1, drop_tok hk, runT_line h2 ht]
theorem AskedT.end4 (h : AskedT ts k 12) (hk : ts[k + 12]? = some t) (ht : t.kind = 4) : runT n (ts.drop k) [] hs l = runT n (ts.drop (k + 12)) [] (hs ++ [((ts.drop k).take 12).getD 0 noT]) (l ++ [taskOf ((ts.drop k).take 12)]) := by
  have hlt := (List.getElem?_eq_some_iff.1 hk).1
  obtain ⟨h1, h2⟩ := h.run (n := n) (hs := hs) (l := l) (by omega) (by omega)
  rw [h1, drop_tok hk, runT_last h2 ht, runT_end ht]
theorem getD_cut {j : Nat} (hj : j < 12) : ((ts.drop k).take 12).getD j noT = ts.getD (k + j) noT := by
  simp [List.getD, List.getElem?_drop, hj]
theorem getD_tok {j : Nat} (h : ts[j]? = some t) : ts.getD j noT = t := by simp [List.getD, h]
end

/-- The cells of a task, of which the numbers of the first i places are read. -/
def csF (cs : Array Value) (os : List Nat) (ts : List Tok) (k : Nat) : Nat → Array Value
  | 0 => cs
  | i + 1 => (csF cs os ts k i).setIfInBounds (os.getD i 0) (.int .i64 ((ts.getD (k + i) noT).value : Nat))
theorem size_csF (cs : Array Value) (os : List Nat) (ts : List Tok) (k : Nat) : ∀ i, (csF cs os ts k i).size = cs.size
  | 0 => rfl
  | i + 1 => by simp [csF, size_csF cs os ts k i]
def ptrs (p : Nat) (os : List Nat) : Array Value := (os.map fun o => Value.pointer (some ⟨p, o, none⟩)).toArray
def TNum (w0 : World) (g p bs : Nat) (A : Option Addr) (c : Nat) (ts : List Tok) (k : Nat) (x : Rest) (cs : Array Value) (os : List Nat) (w : World) (i : Nat) (W : World) : Prop :=
  Rs w0 g A c ts x (k + i) W ∧ Lies W p 26 (csF cs os ts k i) ∧ Lies W bs 92 (ptrs p os) ∧ Turns (fun i => i = g ∨ i = p) w W
theorem tplaced {w0 w : World} {g p bs : Nat} {A : Option Addr} {c : Nat} {ts : List Tok} {k : Nat} {x : Rest} {cs : Array Value} {os : List Nat} (hp : p ≠ g) (hbg : bs ≠ g) (hbp : bs ≠ p) (hw : w0.heap.size ≤ p) (ho : ∀ o ∈ os, o < cs.size) :
    Placed w0 g p bs A c ts k os (fun _ => x) (TNum w0 g p bs A c ts k x cs os w) := by
  refine ⟨fun i W h => h.1, fun i W W' h hb => ⟨h.1.on hb, h.2.1.below hb h.2.1.lt, h.2.2.1.below hb h.2.2.1.lt, h.2.2.2.trans (Turns.of_below (S := fun i => i = g ∨ i = p) hb) (fun _ _ h => h)⟩, fun i W o h hi => ?_, fun i W o h hi => ?_, fun i W o t h hi ht h2 => ?_⟩
  · rw [h.2.2.1.cell]; simp [ptrs, hi]
  · have hlt : o < (csF cs os ts k i).size := by rw [size_csF]; exact ho o (List.mem_of_getElem? hi)
    exact ⟨⟨(csF cs os ts k i)[o], by rw [h.2.1.cell, Array.getElem?_eq_getElem hlt]⟩, h.2.1.thawed o⟩
  · have hr := h.1.there (a := ⟨p, o, none⟩) (fun e => hp e.symm) hw (.int .i64 (t.value : Nat))
    refine ⟨hr.c1, hr.lies.thawed 1, ?_⟩
    have e1 : os.getD i 0 = o := by simp [List.getD, hi]
    refine ⟨hr.go ht (by omega), ?_, (h.2.2.1.there (a := ⟨p, o, none⟩) hbp _).there (a := ⟨g, 1, none⟩) hbg _, (h.2.2.2.setCell (a := ⟨p, o, none⟩) (.inr (.inr rfl)) _).setCell (a := ⟨g, 1, none⟩) (.inr (.inl rfl)) _⟩
    have := (h.2.1.here o (.int .i64 (t.value : Nat))).there (a := ⟨g, 1, none⟩) hp (.int .i64 (((k + i : Nat) : Int) + 1))
    rw [csF, e1, getD_tok ht]
    exact this

section
variable {w0 W w1 : World} {g : Nat} {A : Option Addr} {c : Nat} {ts : List Tok} {B : Int} {T F : Value} {b : Tok} {k : Nat} {hs : List Tok} {l : List Tk} {A1 : Option Addr} {c1 : Nat}
theorem Rs.firsts {t : Tok} (hr : Rs w0 g A c ts ⟨B, T, b, F⟩ k W) (ho : Rows w0 g T F hs l W) (hl : LongerT w0.heap.size W F (hs.length + 1) (hs ++ [t]) A1 c1 w1) :
    Rs w0 g A c ts ⟨B, T, b, .slice A1 (hs.length + 1) c1⟩ k (w1.setCell ⟨g, 9, none⟩ (.slice A1 (hs.length + 1) c1)) ∧ Rows w0 g T (.slice A1 (hs.length + 1) c1) (hs ++ [t]) l (w1.setCell ⟨g, 9, none⟩ (.slice A1 (hs.length + 1) c1)) := by
  have hL := lies_longerT hr.lies hl ho.fg
  have hne : (Value.slice A1 (hs.length + 1) c1).ownBlock ≠ some g := by
    rcases hl.2.2 with h | h
    · rw [h]; exact ho.fg
    · rw [h]; intro e; have := hr.lies.lt; have := Option.some.inj e; omega
  refine ⟨⟨hr.toks, hr.ge, hr.small, hr.cap, hr.ends, hr.lt, (Below.grown hr.below hl.2.1 hr.below.size (fun k hk => (own_lt ho.firsts hk).1)).setCell (p := ⟨g, 9, none⟩) hr.ge _, by simpa [rdC] using hL.here 9 (.slice A1 (hs.length + 1) c1)⟩, ?_, ?_, ho.tg, hne, ?_⟩
  · refine own_same ho.tasks (fun y hy => ?_)
    rw [Below.heap_setCell w1 _ _ y (fun e => ho.tg (by rw [hy, e])), hl.2.1.block y (own_lt ho.tasks hy).2 (fun e => ho.tf y hy e.symm)]
  · rw [List.length_append]
    exact own_same hl.1 (fun y hy => Below.heap_setCell w1 _ _ y (fun e => hne (by rw [hy, e])))
  · intro y hy e
    rcases hl.2.2 with h | h
    · exact ho.tf y hy (by rw [← h]; exact e)
    · rw [h] at e
      have := (own_lt ho.tasks hy).2
      have := Option.some.inj e
      omega
theorem Rs.tasks {t : Tk} (hr : Rs w0 g A c ts ⟨B, T, b, F⟩ k W) (ho : Rows w0 g T F hs l W) (hl : LongerK w0.heap.size W T (l.length + 1) (l ++ [t]) A1 c1 w1) :
    Rs w0 g A c ts ⟨B, .slice A1 (l.length + 1) c1, b, F⟩ k (w1.setCell ⟨g, 3, none⟩ (.slice A1 (l.length + 1) c1)) ∧ Rows w0 g (.slice A1 (l.length + 1) c1) F hs (l ++ [t]) (w1.setCell ⟨g, 3, none⟩ (.slice A1 (l.length + 1) c1)) := by
  have hL := lies_longerK hr.lies hl ho.tg
  have hne : (Value.slice A1 (l.length + 1) c1).ownBlock ≠ some g := by
    rcases hl.2.2 with h | h
    · rw [h]; exact ho.tg
    · rw [h]; intro e; have := hr.lies.lt; have := Option.some.inj e; omega
  refine ⟨⟨hr.toks, hr.ge, hr.small, hr.cap, hr.ends, hr.lt, (Below.grown hr.below hl.2.1 hr.below.size (fun k hk => (own_lt ho.tasks hk).1)).setCell (p := ⟨g, 3, none⟩) hr.ge _, by simpa [rdC] using hL.here 3 (.slice A1 (l.length + 1) c1)⟩, ?_, ?_, hne, ho.fg, ?_⟩
  · rw [List.length_append]
    exact own_same hl.1 (fun y hy => Below.heap_setCell w1 _ _ y (fun e => hne (by rw [hy, e])))
  · refine own_same ho.firsts (fun y hy => ?_)
    rw [Below.heap_setCell w1 _ _ y (fun e => ho.fg (by rw [hy, e])), hl.2.1.block y (own_lt ho.firsts hy).2 (fun e => ho.tf y e.symm hy)]
  · intro y hy e
    rcases hl.2.2 with h | h
    · rw [h] at hy
      exact ho.tf y hy e
    · rw [h] at hy
      have := (own_lt ho.firsts e).2
      have := Option.some.inj hy
      omega
end
end Go.Proofs.YtbijgmaeechmoaaDoor
