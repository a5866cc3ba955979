/- A promoter beside a row that reads as its jobs in order: what each call leaves. -/
import Derived.Test.YtlodfipiodlgdaaGj
import Derived.Test.YtlodfipiodlgdaaFl
namespace Go.Proofs.Ytlodfipiodlgdaa.Jb
open Go.RowKit

/-- A slice's beginning: none, or a plain place. -/
def Plain (A : Option Addr) (c : Nat) : Prop := (A = none ∧ c = 0) ∨ ∃ b off, A = some ⟨b, off, none⟩
/-- The promoter's jobs in order are M; the row reads as R. -/
structure St (w : World) (S : Nat → Prop) (p room : Nat) (now : Int) (n c : Nat) (A : Option Addr) (M R : List Ky) (W : World) : Prop where
  has : Has w S p room now M W
  len : R.length = n
  keys : Keys W A c R
  far : ∀ x, A = some x → ¬ S x.block ∧ x.block < W.heap.size
  plain : Plain A c
  cb : c ≤ 9223372036854775807
theorem GrowsQ.plain {W0 W : World} {A : Option Addr} {n c : Nat} {l : List Ky} (h : GrowsQ W0 A n c l W) : Plain A c ∧ c ≤ 9223372036854775807 := by
  rcases h.2.2 with ⟨e1, e2⟩ | ⟨g, cap, cur, e1, _, _, _, hcm, _⟩
  · cases e1
    exact ⟨.inl ⟨rfl, rfl⟩, by omega⟩
  · cases e1
    unfold maxLen at hcm
    exact ⟨.inr ⟨g, 0, rfl⟩, by omega⟩
section
variable {w W W' : World} {S : Nat → Prop} {p room n c : Nat} {now : Int} {A : Option Addr} {M M' R R' : List Ky}
theorem St.more (h : St w S p room now n c A M R W) (hb : Below W.heap.size W W') : St w S p room now n c A M R W' :=
  ⟨h.has.more hb, h.len, h.keys.below (Nat.le_refl _) hb, fun x hx => ⟨(h.far x hx).1, Nat.lt_of_lt_of_le (h.far x hx).2 hb.size⟩, h.plain, h.cb⟩
theorem St.drewN (h : St w S p room now n c A M R W) (d : Nat) : St w S p room now n c A M R (W.drewN d) := h.more (below_drewN (Below.refl _ _) d)
/-- The promoter turned. -/
theorem St.acts {v : Value} {e : Ending} (h : St w S p room now n c A M R W) (ht : Then v w S p room now M' W e W') : ∃ S', St w S' p room now n c A M' R W' ∧ (∀ k, S' k → S k ∨ W.heap.size ≤ k) ∧ Turns S W W' := by
  obtain ⟨_, ⟨S', h1, h2⟩, h3⟩ := ht
  refine ⟨S', ⟨h1, h.len, h.keys.turns h3 (fun x hx => (h.far x hx).1), fun x hx => ⟨fun hs => ?_, Nat.lt_of_lt_of_le (h.far x hx).2 h3.size⟩, h.plain, h.cb⟩, h2, h3⟩
  rcases h2 _ hs with h' | h'
  · exact (h.far x hx).1 h'
  · have := (h.far x hx).2; omega
theorem St.adv {t : Int} (h : St w S p room now n c A M R W) (h4 : Has w S p room t M' W') (ht : Turns S W W') : St w S p room t n c A M' R W' :=
  ⟨h4, h.len, h.keys.turns ht (fun x hx => (h.far x hx).1), fun x hx => ⟨(h.far x hx).1, Nat.lt_of_lt_of_le (h.far x hx).2 ht.size⟩, h.plain, h.cb⟩
/-- The row was made anew. -/
theorem St.row {n' c' : Nat} {A' : Option Addr} (h : St w S p room now n c A M R W) (hg : GrowsQ W A' n' c' R' W') (hn : R'.length = n') : St w S p room now n' c' A' M R' W' := by
  refine ⟨h.has.more hg.1, hn, hg.keys, fun x hx => ?_, hg.plain.1, hg.plain.2⟩
  subst hx
  obtain ⟨h1, h2⟩ := own_lt hg.2 (k := x.block) rfl
  exact ⟨fun hs => by have := (h.has.inS _ hs).2; omega, h2⟩
/-- The row begins further behind. -/
theorem St.cut {q c' : Nat} {A' : Option Addr} (h : St w S p room now n c A M R W) (hq : q ≤ n)
    (hA : (c = q ∧ A' = A ∧ c' = 0) ∨ (c ≠ q ∧ c' = c - q ∧ ∃ b off, A = some ⟨b, off, none⟩ ∧ A' = some ⟨b, off + q * 2, none⟩)) : St w S p room now (n - q) c' A' M (R.drop q) W := by
  have hl := h.len
  have hlc := h.keys.le
  have hcb := h.cb
  rcases hA with ⟨e1, rfl, rfl⟩ | ⟨e1, rfl, b, off, rfl, rfl⟩
  · have hnil : R.drop q = [] := List.drop_eq_nil_of_le (by omega)
    have hp : Plain A' 0 := by
      rcases h.plain with ⟨e, _⟩ | e
      · exact .inl ⟨e, rfl⟩
      · exact .inr e
    exact ⟨h.has, by rw [List.length_drop]; omega, by rw [hnil]; exact keys_none _ _ _, h.far, hp, by omega⟩
  · refine ⟨h.has, by rw [List.length_drop]; omega, h.keys.drop q _ (by omega), fun x hx => ?_, .inr ⟨b, _, rfl⟩, by omega⟩
    cases hx
    exact h.far ⟨b, off, none⟩ rfl
end
theorem due_none {l : List Ky} {t : Int} (h : ∀ d ∈ l, t < d.1) : due l t = [] ∧ stay l t = l :=
  ⟨List.filter_eq_nil_iff.2 fun d hd => by have := h d hd; simp; omega, List.filter_eq_self.2 fun d hd => by simpa using h d hd⟩
theorem due_cut {t : Int} : ∀ {m : List Ky}, Srt m → due m t = m.take (due m t).length ∧ stay m t = m.drop (due m t).length
  | [], _ => ⟨rfl, rfl⟩
  | x :: l, h => by
    have hx := List.pairwise_cons.1 h
    obtain ⟨h1, h2⟩ := due_cut (t := t) hx.2
    by_cases hxt : x.1 ≤ t
    · have e1 : due (x :: l) t = x :: due l t := by unfold due; rw [List.filter_cons, if_pos (by simpa using hxt)]
      have e2 : stay (x :: l) t = stay l t := by unfold stay; rw [List.filter_cons, if_neg (by simpa using hxt)]
      rw [e1, e2, List.length_cons, List.take_succ_cons, List.drop_succ_cons, ← h1, ← h2]
      exact ⟨rfl, rfl⟩
    · have hall : ∀ d ∈ x :: l, t < d.1 := fun d hd => by
        rcases List.mem_cons.1 hd with rfl | hd
        · omega
        · have := (List.pairwise_cons.1 (srt_times h)).1 d hd
          omega
      obtain ⟨e1, e2⟩ := due_none hall
      rw [e1, e2]
      exact ⟨rfl, rfl⟩
theorem lt_is (y0 y1 k0 k1 : Int) : lt (y0, y1) (k0, k1) = true ↔ (y0 < k0 ∨ y0 = k0 ∧ y1 < k1) := lt_iff
/-- Where a number was found, of the first j jobs. -/
def Fnd (M : List Ky) (id : Int) (j : Nat) (kk : Int) : Prop :=
  (∃ (q : Nat) (x : Ky), kk = (q : Int) ∧ q < j ∧ M[q]? = some x ∧ idK x = id) ∨ (kk = -1 ∧ ∀ q x, q < j → M[q]? = some x → idK x ≠ id)
def FndRel (M : List Ky) (id : Int) (V : World) (n : Nat) (kv j : Value) (W : World) : Prop := ∃ (q d : Nat) (kk : Int), q ≤ n ∧ j = .int .i64 (q : Int) ∧ kv = .int .i64 kk ∧ W = V.drewN d ∧ Fnd M id q kk
theorem Fnd.none (M : List Ky) (id : Int) : Fnd M id 0 (-1) := .inr ⟨rfl, fun q _ hq => by omega⟩
theorem Fnd.hit {M : List Ky} {id : Int} {j : Nat} {x : Ky} (hx : M[j]? = some x) (hid : idK x = id) : Fnd M id (j + 1) (j : Int) := .inl ⟨j, x, rfl, by omega, hx, hid⟩
theorem Fnd.miss {M : List Ky} {id kk : Int} {j : Nat} {x : Ky} (h : Fnd M id j kk) (hx : M[j]? = some x) (hid : idK x ≠ id) : Fnd M id (j + 1) kk := by
  rcases h with ⟨q, y, h1, h2, h3, h4⟩ | ⟨h1, h2⟩
  · exact .inl ⟨q, y, h1, by omega, h3, h4⟩
  · refine .inr ⟨h1, fun q y hq hy => ?_⟩
    by_cases e : q = j
    · subst e
      rw [hx] at hy
      cases hy
      exact hid
    · exact h2 q y (by omega) hy
/-- Why a job may not wait, as the statement asks it, one behind the other; or it may. -/
theorem okT_cases {now y2 y3 y4 : Int} (b3 : -9223372036854775808 ≤ y3 ∧ y3 ≤ 9223372036854775807) (b4 : -9223372036854775808 ≤ y4 ∧ y4 ≤ 9223372036854775807) :
    (¬ okT now y2 y3 y4 ∧ decide (y4 < 1) = true) ∨
    (¬ okT now y2 y3 y4 ∧ decide (y4 < 1) = false ∧ decide (y3 < y4) = true) ∨
    (¬ okT now y2 y3 y4 ∧ decide (y4 < 1) = false ∧ decide (y3 < y4) = false ∧ decide (y2 < 0) = true) ∨
    (¬ okT now y2 y3 y4 ∧ decide (y4 < 1) = false ∧ decide (y3 < y4) = false ∧ decide (y2 < 0) = false ∧ decide (1099511627776 < y2) = true) ∨
    (decide (y4 < 1) = false ∧ decide (y3 < y4) = false ∧ decide (y2 < 0) = false ∧ decide (1099511627776 < y2) = false ∧ ∃ e f : Int, IntKind.i64.wrap (y3 - y4) = e ∧ IntKind.i64.wrap (1099511627776 - y2) = f ∧
      ((¬ okT now y2 y3 y4 ∧ decide (f < e) = true) ∨ (decide (f < e) = false ∧ ∃ s t : Int, IntKind.i64.wrap (y2 + y3) = s ∧ IntKind.i64.wrap (s - y4) = t ∧ Hid (t = y2 + (y3 - y4)) ∧
        ((¬ okT now y2 y3 y4 ∧ decide (t < now) = true) ∨ (okT now y2 y3 y4 ∧ decide (t < now) = false))))) := by
  by_cases h1 : y4 < 1
  · exact .inl ⟨fun h => by have := h.1; omega, decide_eq_true h1⟩
  by_cases h2 : y3 < y4
  · exact .inr (.inl ⟨fun h => by have := h.2.1; omega, decide_eq_false h1, decide_eq_true h2⟩)
  by_cases h3 : y2 < 0
  · exact .inr (.inr (.inl ⟨fun h => by have := h.2.2.1; omega, decide_eq_false h1, decide_eq_false h2, decide_eq_true h3⟩))
  by_cases h4 : 1099511627776 < y2
  · exact .inr (.inr (.inr (.inl ⟨fun h => by obtain ⟨_, _, _, _, _⟩ := h; omega, decide_eq_false h1, decide_eq_false h2, decide_eq_false h3, decide_eq_true h4⟩)))
  refine .inr (.inr (.inr (.inr ⟨decide_eq_false h1, decide_eq_false h2, decide_eq_false h3, decide_eq_false h4, y3 - y4, 1099511627776 - y2, by rw [IntKind.wrap_i64]; omega, by rw [IntKind.wrap_i64]; omega, ?_⟩)))
  by_cases h5 : 1099511627776 - y2 < y3 - y4
  · exact .inl ⟨fun h => by obtain ⟨_, _, _, _, _⟩ := h; omega, decide_eq_true h5⟩
  refine .inr ⟨decide_eq_false h5, _, y2 + (y3 - y4), rfl, by rw [IntKind.wrap_i64, IntKind.wrap_i64]; omega, Lib.hid rfl, ?_⟩
  by_cases h6 : y2 + (y3 - y4) < now
  · exact .inl ⟨fun h => by obtain ⟨_, _, _, _, _⟩ := h; omega, decide_eq_true h6⟩
  · exact .inr ⟨⟨by omega, by omega, by omega, by omega, by omega⟩, decide_eq_false h6⟩
/-- What the promoter makes of these. -/
theorem wait_no1 {now y1 y2 y3 y4 : Int} {room : Nat} {M : List Ky} (h : ¬ okT now y2 y3 y4) : waitT now room M y1 y2 y3 y4 = 0 ∧ waitE now room M y1 y2 y3 y4 = 1 ∧ waitM now room M y1 y2 y3 y4 = M :=
  ⟨if_neg (fun k => h k.1), if_pos h, if_neg (fun k => h k.1)⟩
theorem wait_no7 {now y1 y2 y3 y4 : Int} {room : Nat} {M : List Ky} (h : okT now y2 y3 y4) (hid : y1 ∈ M.map idK) : waitT now room M y1 y2 y3 y4 = 0 ∧ waitE now room M y1 y2 y3 y4 = 7 ∧ waitM now room M y1 y2 y3 y4 = M :=
  ⟨if_neg (fun k => k.2.1 hid), by unfold waitE; rw [if_neg (not_not_intro h), if_pos hid], if_neg (fun k => k.2.1 hid)⟩
theorem wait_no3 {now y1 y2 y3 y4 : Int} {room : Nat} {M : List Ky} (h : okT now y2 y3 y4) (hid : y1 ∉ M.map idK) (hf : M.length = room) : waitT now room M y1 y2 y3 y4 = 0 ∧ waitE now room M y1 y2 y3 y4 = 3 ∧ waitM now room M y1 y2 y3 y4 = M :=
  ⟨if_neg (fun k => k.2.2 hf), by unfold waitE; rw [if_neg (not_not_intro h), if_neg hid, if_pos hf], if_neg (fun k => k.2.2 hf)⟩
theorem wait_yes {now y1 y2 y3 y4 : Int} {room : Nat} {M : List Ky} (h : okT now y2 y3 y4) (hid : y1 ∉ M.map idK) (hf : M.length ≠ room) : waitT now room M y1 y2 y3 y4 = y2 + (y3 - y4) ∧ waitE now room M y1 y2 y3 y4 = 0 ∧ waitM now room M y1 y2 y3 y4 = putK M (y2 + (y3 - y4), y1) :=
  ⟨if_pos ⟨h, hid, hf⟩, by unfold waitE; rw [if_neg (not_not_intro h), if_neg hid, if_neg hf], if_pos ⟨h, hid, hf⟩⟩
/-- A place was looked for as far as j. -/
def AtRel (m : List Ky) (k : Ky) (n : Nat) (V : World) (i : Value) (W : World) : Prop := ∃ j d : Nat, j ≤ n ∧ i = .int .i64 (j : Int) ∧ W = V.drewN d ∧ ∀ i x, i < j → m[i]? = some x → lt x k = true
def CntRel (r : Nat) (V : World) (v : Value) (W : World) : Prop := ∃ j d : Nat, j ≤ r ∧ v = .int .i64 (j : Int) ∧ W = V.drewN d
/-- What the if leaves. -/
def Cut (w : World) (p room k : Nat) (s t : Value) (W : World) : Prop := ∃ (S : Nat → Prop) (now : Int) (n c : Nat) (A : Option Addr) (M : List Ky), s = .slice A n c ∧ t = .int .i64 now ∧ n ≤ k + 1 ∧ St w S p room now n c A M M W
/-- What the statement's own ways behind a Wait leave: the same answers, and the row. -/
def CutW (w : World) (S : Nat → Prop) (p room : Nat) (now : Int) (k : Nat) (E T : Int) (M2 : List Ky) (sm wa wh : Value) (W : World) : Prop :=
  ∃ (n c : Nat) (A : Option Addr), sm = .slice A n c ∧ wa = .int .i64 E ∧ wh = .int .i64 T ∧ n ≤ k + 1 ∧ St w S p room now n c A M2 M2 W
/-- The place was found. -/
def CutJ (M : List Ky) (x : Ky) (q : Nat) (V : World) (i : Value) (W : World) : Prop := ∃ j d : Nat, j ≤ q ∧ i = .int .i64 (j : Int) ∧ W = V.drewN d ∧ M.take j ++ [x] ++ M.drop j = putK M x
def ModelRel (w : World) (p room N : Nat) (s t i : Value) (W : World) : Prop := ∃ (k : Nat) (X : World) (S : Nat → Prop) (now : Int) (n c : Nat) (A : Option Addr) (M : List Ky), k ≤ N ∧ n ≤ k ∧ i = .int .i64 (k : Int) ∧ t = .int .i64 now ∧ s = .slice A n c ∧ X = W ∧ St w S p room now n c A M M X
end Go.Proofs.Ytlodfipiodlgdaa.Jb
