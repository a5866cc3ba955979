/- A run at the begin of a part, behind one, behind a tick. -/
import Derived.Test.YtbofpbochgoafaaRl
import Derived.Deep.MidRow
namespace Go.Proofs.Ytbofpbochgoafaa
open Go.RowKit

/-- A run's cells, as a list. -/
def cellsR (t : Tk) (d p l : Int) (s : Bool) (f : Int) : List Value := [.string t.name, .int .i64 t.T, .int .i64 t.D, .int .i64 t.C, .int .i64 t.A, .int .i64 t.Seg, .int .i64 t.Cost, .int .i64 t.M, .int .i64 t.K, .int .i64 t.Mode, .int .i64 t.Prio, .int .i64 d, .int .i64 p, .int .i64 l, .bool s, .int .i64 f]
theorem lies_setCells {g : Nat} {ty : TypeId} : ∀ (vs : List Value) (o : Nat) (w : World) (cs : Array Value), Lies w g ty cs →
    ∃ cs', Lies (w.setCells g o vs) g ty cs' ∧ cs'.size = cs.size ∧ (∀ j v, vs[j]? = some v → o + j < cs.size → cs'[o + j]? = some v) ∧ ∀ i, (i < o ∨ o + vs.length ≤ i) → cs'[i]? = cs[i]?
  | [], o, w, cs, h => ⟨cs, h, rfl, fun j v hv => by simp at hv, fun _ _ => rfl⟩
  | u :: vs, o, w, cs, h => by
    obtain ⟨cs', h1, h2, h3, h4⟩ := lies_setCells vs (o + 1) _ _ (h.here o u)
    refine ⟨cs', h1, by rw [h2]; simp, fun j v hv hlt => ?_, fun i hi => ?_⟩
    · cases j with
      | zero =>
        have : u = v := by simpa using hv
        subst this
        rw [Nat.add_zero, h4 o (.inl (by omega)), Array.getElem?_setIfInBounds, if_pos rfl, if_pos (by omega)]
      | succ j =>
        have := h3 j v (by simpa using hv) (by simp; omega)
        rw [show o + (j + 1) = o + 1 + j by omega]; exact this
    · rw [h4 i (by simp at hi; omega), Array.getElem?_setIfInBounds, if_neg (by simp at hi; omega)]
theorem run_put {W : World} {b : Nat} {t t' : Tk} {d p l f d' p' l' f' : Int} {s s' : Bool} (h : Lies W b 28 (boxR t' d' p' l' s' f')) : Lies (W.setCells b 0 (cellsR t d p l s f)) b 28 (boxR t d p l s f) := by
  obtain ⟨cs', h1, h2, h3, _⟩ := lies_setCells (cellsR t d p l s f) 0 W _ h
  have h16 : cs'.size = 16 := h2
  have : cs' = boxR t d p l s f := by
    apply Array.ext'
    apply List.ext_getElem?
    intro j
    by_cases hj : j < 16
    · have hx : (cellsR t d p l s f)[j]? = some ((cellsR t d p l s f)[j]'hj) := List.getElem?_eq_getElem _
      have := h3 j _ hx (by show 0 + j < 16; omega)
      rw [Nat.zero_add] at this
      rw [Array.getElem?_toList, this, ← hx]; rfl
    · rw [List.getElem?_eq_none (by rw [Array.length_toList, h16]; omega), List.getElem?_eq_none (by show 16 ≤ j; omega)]
  rw [← this]; exact h1
theorem results_run1 {fn : Func} {s : Nat} (h : fn.results = #[.cell s 28]) (tmps : Array Value) (w : World) (g : Nat) (cs : Array Value) (hp : tmps.getD s undef = .pointer (some ⟨g, 0, none⟩)) (hL : Lies w g 28 cs) (hs : cs.size = 16) :
    (results fn tmps).run Try.prog w = .ok (.agg cs) w := by
  have hp' : tmps[s]?.getD undef = .pointer (some ⟨g, 0, none⟩) := by simpa using hp
  simp [results, h, hp', asAddr, run_loadVar_row (P := Try.prog) w g 28 28 cs (0, 0) _ hL Try.underlying28 rfl (by rw [hs]; rfl)]
theorem results_run2 {fn : Func} {s r : Nat} (h : fn.results = #[.cell s 28, .tmp r]) (tmps : Array Value) (w : World) (g : Nat) (cs : Array Value) (hp : tmps.getD s undef = .pointer (some ⟨g, 0, none⟩)) (hL : Lies w g 28 cs) (hs : cs.size = 16) :
    (results fn tmps).run Try.prog w = .ok (.tuple #[.agg cs, tmps.getD r undef]) w := by
  have hp' : tmps[s]?.getD undef = .pointer (some ⟨g, 0, none⟩) := by simpa using hp
  simp [results, h, hp', asAddr, run_loadVar_row (P := Try.prog) w g 28 28 cs (0, 0) _ hL Try.underlying28 rfl (by rw [hs]; rfl)]
theorem runSize : (Try.prog.info? 28).map (·.size) = some 16 := by kernel_rfl
theorem one_cellsR (t : Tk) (d p l : Int) (s : Bool) (f : Int) : ∀ u ∈ cellsR t d p l s f, u.oneCell' = true := by
  intro u hu
  simp only [cellsR, List.mem_cons, List.not_mem_nil, or_false] at hu
  rcases hu with rfl | rfl | rfl | rfl | rfl | rfl | rfl | rfl | rfl | rfl | rfl | rfl | rfl | rfl | rfl | rfl <;> rfl
theorem run_there {W : World} {b : Nat} {t' : Tk} {d' p' l' f' : Int} {s' : Bool} (h : Lies W b 28 (boxR t' d' p' l' s' f')) : W.there b 0 16 := by
  intro j hj
  refine ⟨?_, h.thawed _⟩
  rw [h.cell, Nat.zero_add, Array.getElem?_eq_getElem (show j < (boxR t' d' p' l' s' f').size from hj)]; rfl
/-- A run is stored into its block. -/
theorem store_run {ops : Array Oper} {rest : List Oper} {op : Oper} {a : Act} {w : World} {Q : Exit → Act → World → Prop} (hgd : op.guard = none) (x y : Operand) (ho : op.op = .store 28 x y)
    (b : Nat) (t : Tk) (d p l : Int) (s : Bool) (f : Int) (hx : a.eval x = .pointer (some ⟨b, 0, none⟩)) (hy : a.eval y = aggR t d p l s f) (ht : w.there b 0 16)
    (h : wpList Try.prog ops Q rest (a.put op.dst undef) (w.setCells b 0 (cellsR t d p l s f))) : wpList Try.prog ops Q (op :: rest) a w :=
  wpList_store_mid hgd 28 x y ho b 0 (cellsR t d p l s f).toArray hx hy ht runSize (all_oneCell_toArray (one_cellsR t d p l s f)) h
theorem below_setCells {B g : Nat} {w0 : World} (hg : B ≤ g) : ∀ (vs : List Value) (o : Nat) (w : World), Below B w0 w → Below B w0 (w.setCells g o vs)
  | [], _, _, h => h
  | u :: vs, o, _, h => below_setCells hg vs (o + 1) _ (h.setCell (p := ⟨g, o, none⟩) hg u)
theorem lies_other {g b : Nat} {ty : TypeId} {cs : Array Value} (hg : b ≠ g) : ∀ (vs : List Value) (o : Nat) (w : World), Lies w b ty cs → Lies (w.setCells g o vs) b ty cs
  | [], _, _, h => h
  | u :: vs, o, _, h => lies_other hg vs (o + 1) _ (h.there (a := ⟨g, o, none⟩) hg u)
def t00 : Tk := ⟨⟨#[]⟩, 0, 0, 0, 0, 0, 0, 0, 0, 0, 0⟩
/-- A run in the block that the call made first; the result's block behind it. -/
structure RTwo (w : World) (t : Tk) (d p l : Int) (s : Bool) (f : Int) (W : World) : Prop where
  below : Below w.heap.size w W
  lies : Lies W w.heap.size 28 (boxR t d p l s f)
  res : Lies W (w.heap.size + 1) 28 (boxR t00 0 0 0 false 0)
section
variable {w W W' : World} {t : Tk} {d p l f : Int} {s : Bool}
theorem RTwo.made (w : World) (t : Tk) (d p l : Int) (s : Bool) (f : Int) : RTwo w t d p l s f ((w.alloc (.cells (boxR t d p l s f) 28)).alloc (.cells (boxR t00 0 0 0 false 0) 28)) :=
  ⟨(below_new _ _).alloc (by simp) _, (Lies.made _ _ _).alloc _, by have := Lies.made (w.alloc (.cells (boxR t d p l s f) 28)) 28 (boxR t00 0 0 0 false 0); simpa using this⟩
theorem RTwo.tells (h : RTwo w t d p l s f W) (hb : Below W.heap.size W W') : RTwo w t d p l s f W' := ⟨h.below.trans (hb.mono h.below.size), h.lies.below hb h.lies.lt, h.res.below hb h.res.lt⟩
theorem RTwo.left (h : RTwo w t d p l s f W) (g : Int) : RTwo w t d p g s f (W.setCell ⟨w.heap.size, 13, none⟩ (.int .i64 g)) :=
  ⟨h.below.setCell (Nat.le_refl _) _, lies_left h.lies g, h.res.there (by show w.heap.size + 1 ≠ w.heap.size; omega) _⟩
/-- A run is told. -/
structure RDone (w : World) (t : Tk) (d p l : Int) (s : Bool) (f : Int) (W : World) : Prop where
  below : Below w.heap.size w W
  res : Lies W (w.heap.size + 1) 28 (boxR t d p l s f)
theorem RTwo.tell {t' : Tk} {d' p' l' f' : Int} {s' : Bool} (h : RTwo w t d p l s f W) : RDone w t' d' p' l' s' f' (W.setCells (w.heap.size + 1) 0 (cellsR t' d' p' l' s' f')) :=
  ⟨below_setCells (by omega) _ _ _ h.below, run_put h.res⟩
end
set_option maxRecDepth 100000 in
set_option maxHeartbeats 4000000 in
theorem begun {t : Tk} {d s l f p : Int} {n k : Nat} {b : Bool} (h : Sm t d n s) (hk : IsPart t n k) (w : World) :
    Calls Try.prog 17 #[aggR t d p l b f, .int .i64 (k : Int)] w (Gives (aggR t d (k : Int) (lenV t s d k) false f) w) := by
  have HB := Lib.hid (RTwo.made w t d k l false f)
  have KL := Lib.hid (fun W => length (l := l) (f := f) (b := false) h hk W)
  have hl := h.len hk
  simp only [boxR, t00] at HB
  simp only [aggR] at KL ⊢
  clear h hk
  generalize lenV t s d k = v at *
  go_enter Try.func17, Try.ntmps17
  go_wp2_with (fail)
  with_reducible refine (KL.out _).mono ?_
  rintro e w2 ⟨rfl, hb⟩
  have H2 := Lib.hid (HB.out.tells hb)
  clear hb HB
  obtain ⟨y0, y1, y2, y3, y4, y5, y6, y7, y8, y9, y10, y11, y12, y13, y14, y15⟩ := runs_cells H2.out.lies
  have r13 := H2.out.lies.thawed 13
  have H3 := Lib.hid (H2.out.left v)
  have HT := Lib.hid (run_there H3.out.res)
  have H4 := Lib.hid (H3.out.tell (t' := t) (d' := d) (p' := k) (l' := v) (s' := false) (f' := f))
  go_wp2_with ((with_reducible refine store_run ?_ (.tmp 4) (.tmp 11) ?_ (w.heap.size + 1) t d k v false f ?_ ?_ HT.out ?_); rfl; rfl; rfl; rfl)
  (try simp only [Exit.inBlock, Exit.then])
  refine bodyPost_ret (results_run1 rfl _ _ (w.heap.size + 1) _ rfl H4.out.res rfl) rfl ?_
  exact ⟨rfl, H4.out.below⟩
end Go.Proofs.Ytbofpbochgoafaa
