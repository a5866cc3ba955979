/- The order of texts, and lists of names that stand sorted, as plain lists. -/
import Derived.Test.YtfendnccnhmllaaRows
import Derived.WalkKit
import Derived.Lib.Strings
namespace Go.Proofs.Ytfendnccnhmllaa

theorem less_irrefl : ∀ a : List UInt8, Op.bytesLess a a = false
  | [] => rfl
  | x :: a => by simp [Op.bytesLess, less_irrefl a]
theorem less_trans : ∀ {a b c : List UInt8}, Op.bytesLess a b = true → Op.bytesLess b c = true → Op.bytesLess a c = true
  | _, [], _, h, _ => by simp [Op.bytesLess] at h
  | _, _ :: _, [], _, h => by simp [Op.bytesLess] at h
  | [], _ :: _, _ :: _, _, _ => rfl
  | x :: a, y :: b, z :: c, h1, h2 => by
    simp only [Op.bytesLess, Bool.or_eq_true, Bool.and_eq_true, decide_eq_true_eq, beq_iff_eq] at h1 h2 ⊢
    rcases h1 with h1 | ⟨rfl, h1⟩
    · rcases h2 with h2 | ⟨rfl, _⟩
      · exact .inl (UInt8.lt_trans h1 h2)
      · exact .inl h1
    · rcases h2 with h2 | ⟨rfl, h2⟩
      · exact .inl h2
      · exact .inr ⟨rfl, less_trans h1 h2⟩
theorem less_total : ∀ {a b : List UInt8}, Op.bytesLess a b = false → Op.bytesLess b a = false → a = b
  | [], [], _, _ => rfl
  | [], _ :: _, h, _ => by simp [Op.bytesLess] at h
  | _ :: _, [], _, h => by simp [Op.bytesLess] at h
  | x :: a, y :: b, h1, h2 => by
    simp only [Op.bytesLess, Bool.or_eq_false_iff, Bool.and_eq_false_iff, decide_eq_false_iff_not, beq_eq_false_iff_ne] at h1 h2
    have hxy : x = y := UInt8.le_antisymm (UInt8.not_lt.1 h2.1) (UInt8.not_lt.1 h1.1)
    subst hxy
    rw [less_total (h1.2.resolve_left (fun h => h rfl)) (h2.2.resolve_left (fun h => h rfl))]

/-- Text a stands ahead of b. -/
def lt (a b : ByteArray) : Bool := Op.bytesLess a.toList b.toList
theorem toList_inj {a b : ByteArray} (h : a.toList = b.toList) : a = b := by
  rw [Lib.toList_data, Lib.toList_data] at h
  exact ByteArray.ext (Array.toList_inj.1 h)
theorem text_eq {a b : ByteArray} (h : a = b) : (a.toList == b.toList) = true := by rw [h]; exact beq_self_eq_true _
theorem text_ne {a b : ByteArray} (h : a ≠ b) : (a.toList == b.toList) = false := beq_eq_false_iff_ne.2 (fun e => h (toList_inj e))
theorem snoc_rec {α : Type} {P : List α → Prop} (h0 : P []) (h1 : ∀ l x, P l → P (l ++ [x])) (l : List α) : P l := by
  have : ∀ r : List α, P r.reverse := by
    intro r
    induction r with
    | nil => exact h0
    | cons x r ih => rw [List.reverse_cons]; exact h1 _ _ ih
  have := this l.reverse
  rwa [List.reverse_reverse] at this
theorem lt_irrefl (a : ByteArray) : lt a a = false := less_irrefl _
theorem lt_trans {a b c : ByteArray} (h1 : lt a b = true) (h2 : lt b c = true) : lt a c = true := less_trans h1 h2
theorem lt_total {a b : ByteArray} (h1 : lt a b = false) (h2 : lt b a = false) : a = b := toList_inj (less_total h1 h2)
theorem lt_ne {a b : ByteArray} (h : lt a b = true) : a ≠ b := fun e => by rw [e, lt_irrefl] at h; cases h
theorem lt_asymm {a b : ByteArray} (h : lt a b = true) : lt b a = false := by
  cases hb : lt b a with
  | false => rfl
  | true => have := lt_trans h hb; rw [lt_irrefl] at this; cases this

/-- The place of x in l: how many stand ahead of it, up to the first that doesn't. -/
def pos (x : ByteArray) : List ByteArray → Nat
  | [] => 0
  | y :: l => if lt y x then pos x l + 1 else 0
/-- l with x in its place. -/
def ins (x : ByteArray) (l : List ByteArray) : List ByteArray := l.take (pos x l) ++ x :: l.drop (pos x l)
/-- All, each laid into its place. -/
def srt (l : List ByteArray) : List ByteArray := l.foldl (fun out x => ins x out) []
theorem srt_nil : srt [] = [] := rfl
theorem srt_snoc (l : List ByteArray) (x : ByteArray) : srt (l ++ [x]) = ins x (srt l) := by simp [srt]
theorem pos_le (x : ByteArray) : ∀ l, pos x l ≤ l.length
  | [] => Nat.le_refl _
  | y :: l => by unfold pos; split <;> simp [pos_le x l]
theorem pos_lt (x : ByteArray) : ∀ (l : List ByteArray) (i : Nat), i < pos x l → ∃ y, l[i]? = some y ∧ lt y x = true
  | [], i, h => by simp [pos] at h
  | y :: l, i, h => by
    unfold pos at h
    split at h
    · rename_i hy
      cases i with
      | zero => exact ⟨y, rfl, hy⟩
      | succ i =>
        obtain ⟨z, hz, hl⟩ := pos_lt x l i (by omega)
        exact ⟨z, by simpa using hz, hl⟩
    · omega
theorem pos_at (x : ByteArray) : ∀ (l : List ByteArray) (y : ByteArray), l[pos x l]? = some y → lt y x = false
  | [], y, h => by simp at h
  | z :: l, y, h => by
    unfold pos at h
    split at h
    · exact pos_at x l y (by simpa using h)
    · rename_i hz
      have : z = y := by simpa using h
      subst this
      simpa using hz
theorem pos_eq {x : ByteArray} : ∀ {l : List ByteArray} {k : Nat}, k ≤ l.length → (∀ i y, i < k → l[i]? = some y → lt y x = true) → (∀ y, l[k]? = some y → lt y x = false) → pos x l = k
  | [], k, hk, _, _ => by simp at hk; simp [pos, hk]
  | z :: l, 0, _, _, h2 => by unfold pos; rw [h2 z rfl]; rfl
  | z :: l, k + 1, hk, h1, h2 => by
    unfold pos
    rw [h1 0 z (by omega) rfl]
    rw [if_pos rfl, pos_eq (l := l) (k := k) (by simpa using hk) (fun i y hi hy => h1 (i + 1) y (by omega) (by simpa using hy)) (fun y hy => h2 y (by simpa using hy))]
theorem length_ins (x : ByteArray) (l : List ByteArray) : (ins x l).length = l.length + 1 := by
  have := pos_le x l
  simp [ins]; omega
theorem mem_ins {x y : ByteArray} {l : List ByteArray} : y ∈ ins x l ↔ y = x ∨ y ∈ l := by
  have h := List.take_append_drop (pos x l) l
  constructor
  · intro hy
    simp only [ins, List.mem_append, List.mem_cons] at hy
    rcases hy with hy | hy | hy
    · exact .inr (List.mem_of_mem_take hy)
    · exact .inl hy
    · exact .inr (List.mem_of_mem_drop hy)
  · intro hy
    simp only [ins, List.mem_append, List.mem_cons]
    rcases hy with hy | hy
    · exact .inr (.inl hy)
    · rw [← h] at hy
      rcases List.mem_append.1 hy with hy | hy
      · exact .inl hy
      · exact .inr (.inr hy)
theorem mem_srt {y : ByteArray} (l : List ByteArray) : y ∈ srt l ↔ y ∈ l := by
  induction l using snoc_rec with
  | h0 => simp [srt]
  | h1 l x ih => rw [srt_snoc, mem_ins, ih]; simp [or_comm]
theorem length_srt (l : List ByteArray) : (srt l).length = l.length := by
  induction l using snoc_rec with
  | h0 => rfl
  | h1 l x ih => rw [srt_snoc, length_ins, ih]; simp

/-- Rising, none twice. -/
abbrev Rising (l : List ByteArray) : Prop := l.Pairwise (fun a b => lt a b = true)
theorem rising_at {l : List ByteArray} (h : Rising l) {i j : Nat} {a b : ByteArray} (hi : l[i]? = some a) (hj : l[j]? = some b) (hij : i < j) : lt a b = true := by
  obtain ⟨h1, rfl⟩ := List.getElem?_eq_some_iff.1 hi
  obtain ⟨h2, rfl⟩ := List.getElem?_eq_some_iff.1 hj
  exact List.pairwise_iff_getElem.1 h i j h1 h2 hij
theorem rising_ins {x : ByteArray} {l : List ByteArray} (h : Rising l) (hx : x ∉ l) : Rising (ins x l) := by
  have hsplit := List.take_append_drop (pos x l) l
  have h' : Rising (l.take (pos x l) ++ l.drop (pos x l)) := by rw [hsplit]; exact h
  obtain ⟨ha, hb, hab⟩ := List.pairwise_append.1 h'
  have hleft : ∀ a ∈ l.take (pos x l), lt a x = true := by
    intro a ha
    obtain ⟨i, hi⟩ := List.getElem?_of_mem ha
    rw [List.getElem?_take] at hi
    split at hi
    · rename_i hip
      obtain ⟨y, hy, hl⟩ := pos_lt x l i hip
      rw [hy] at hi
      cases hi
      exact hl
    · cases hi
  have hright : ∀ b ∈ l.drop (pos x l), lt x b = true := by
    intro b hb
    have hmem := List.mem_of_mem_drop hb
    obtain ⟨i, hi⟩ := List.getElem?_of_mem hb
    rw [List.getElem?_drop] at hi
    have hpl : pos x l < l.length := by have := (List.getElem?_eq_some_iff.1 hi).1; omega
    have h0 : l[pos x l]? = some l[pos x l] := by simp
    have hn := pos_at x l _ h0
    have hxb : lt b x = false := by
      cases i with
      | zero =>
        rw [Nat.add_zero, h0] at hi
        cases hi
        exact hn
      | succ i =>
        have := rising_at h h0 hi (by omega)
        cases hc : lt b x with
        | false => rfl
        | true => rw [lt_trans this hc] at hn; cases hn
    cases hc : lt x b with
    | true => rfl
    | false => exact absurd (lt_total hc hxb ▸ hmem) hx
  refine List.pairwise_append.2 ⟨ha, List.pairwise_cons.2 ⟨hright, hb⟩, ?_⟩
  intro a ha b hb
  rcases List.mem_cons.1 hb with rfl | hb
  · exact hleft a ha
  · exact hab a ha b hb
theorem rising_srt {l : List ByteArray} (h : l.Nodup) : Rising (srt l) := by
  induction l using snoc_rec with
  | h0 => exact List.Pairwise.nil
  | h1 l x ih =>
    rw [srt_snoc]
    obtain ⟨h1, _, h3⟩ := List.nodup_append.1 h
    exact rising_ins (ih h1) (fun hm => h3 x ((mem_srt l).1 hm) x (by simp) rfl)
theorem rising_ext : ∀ {l m : List ByteArray}, Rising l → Rising m → (∀ a, a ∈ l ↔ a ∈ m) → l = m
  | [], [], _, _, _ => rfl
  | [], b :: m, _, _, h => by have := (h b).2 (by simp); simp at this
  | a :: l, [], _, _, h => by have := (h a).1 (by simp); simp at this
  | a :: l, b :: m, h1, h2, h => by
    obtain ⟨ha, hl⟩ := List.pairwise_cons.1 h1
    obtain ⟨hb, hm⟩ := List.pairwise_cons.1 h2
    have hab : a = b := by
      rcases List.mem_cons.1 ((h a).1 (by simp)) with e | e
      · exact e
      · rcases List.mem_cons.1 ((h b).2 (by simp)) with e' | e'
        · exact e'.symm
        · have := lt_trans (hb a e) (ha b e')
          rw [lt_irrefl] at this; cases this
    subst hab
    rw [rising_ext hl hm (fun c => ?_)]
    constructor
    · intro hc
      rcases List.mem_cons.1 ((h c).1 (List.mem_cons_of_mem _ hc)) with e | e
      · exact absurd e.symm (lt_ne (ha c hc))
      · exact e
    · intro hc
      rcases List.mem_cons.1 ((h c).2 (List.mem_cons_of_mem _ hc)) with e | e
      · exact absurd e.symm (lt_ne (hb c hc))
      · exact e
theorem srt_ext {l m : List ByteArray} (hl : l.Nodup) (hm : m.Nodup) (h : ∀ a, a ∈ l ↔ a ∈ m) : srt l = srt m :=
  rising_ext (rising_srt hl) (rising_srt hm) (fun a => by rw [mem_srt, mem_srt]; exact h a)
end Go.Proofs.Ytfendnccnhmllaa
