/- Entries and their order; lists of entries in order: what is plain of them. -/
import Derived.Test.YtlodfipiodlgdaaRows
namespace Go.Proofs.Ytlodfipiodlgdaa

/-- An entry: its time, its number. -/
abbrev Ky := Int × Int
def c1 (a b : Int) : Int := if a < b then -1 else if b < a then 1 else 0
def pick1 (x y : Int) : Int := if x = 0 then y else x
def cmpK (a b : Ky) : Int := pick1 (c1 a.1 b.1) (c1 a.2 b.2)
/-- a stands ahead of b. -/
def Lt (a b : Ky) : Prop := a.1 < b.1 ∨ a.1 = b.1 ∧ a.2 < b.2
def lt (a b : Ky) : Bool := decide (cmpK a b < 0)

theorem c1_cases (a b : Int) : (a < b ∧ c1 a b = -1) ∨ (b < a ∧ c1 a b = 1) ∨ (a = b ∧ c1 a b = 0) := by
  unfold c1
  by_cases h : a < b
  · exact .inl ⟨h, if_pos h⟩
  · rw [if_neg h]
    by_cases h2 : b < a
    · exact .inr (.inl ⟨h2, if_pos h2⟩)
    · rw [if_neg h2]; exact .inr (.inr ⟨by omega, rfl⟩)
theorem cmp_cases (a b : Ky) : (Lt a b ∧ cmpK a b = -1) ∨ (Lt b a ∧ cmpK a b = 1) ∨ (a = b ∧ cmpK a b = 0) := by
  obtain ⟨a1, a2⟩ := a
  obtain ⟨b1, b2⟩ := b
  simp only [cmpK, Lt, pick1, Prod.mk.injEq]
  rcases c1_cases a1 b1 with ⟨h1, e1⟩ | ⟨h1, e1⟩ | ⟨h1, e1⟩ <;> simp only [e1]
  · exact .inl ⟨.inl h1, by simp⟩
  · exact .inr (.inl ⟨.inl h1, by simp⟩)
  rcases c1_cases a2 b2 with ⟨h2, e2⟩ | ⟨h2, e2⟩ | ⟨h2, e2⟩ <;> simp only [e2]
  · exact .inl ⟨by omega, by simp⟩
  · exact .inr (.inl ⟨by omega, by simp⟩)
  · exact .inr (.inr ⟨⟨h1, h2⟩, by simp⟩)
theorem Lt.irrefl (a : Ky) : ¬ Lt a a := by unfold Lt; omega
theorem Lt.asymm {a b : Ky} (h : Lt a b) : ¬ Lt b a := by unfold Lt at *; omega
theorem Lt.trans {a b c : Ky} (h : Lt a b) (k : Lt b c) : Lt a c := by unfold Lt at *; omega
theorem le_trans {a b c : Ky} (h : ¬ Lt b a) (k : ¬ Lt c b) : ¬ Lt c a := by unfold Lt at *; omega
theorem lt_le {a b c : Ky} (h : Lt a b) (k : ¬ Lt c b) : Lt a c := by unfold Lt at *; omega
theorem Lt.ne {a b : Ky} (h : Lt a b) : a ≠ b := fun e => Lt.irrefl b (e ▸ h)
theorem Lt.total {a b : Ky} (h : a ≠ b) : Lt a b ∨ Lt b a := by
  rcases cmp_cases a b with h' | h' | h'
  · exact .inl h'.1
  · exact .inr h'.1
  · exact absurd h'.1 h
theorem le_antisymm {a b : Ky} (h : ¬ Lt a b) (k : ¬ Lt b a) : a = b := by
  rcases cmp_cases a b with h' | h' | h'
  · exact absurd h'.1 h
  · exact absurd h'.1 k
  · exact h'.1
theorem lt_iff {a b : Ky} : lt a b = true ↔ Lt a b := by
  unfold lt
  rcases cmp_cases a b with ⟨h, e⟩ | ⟨h, e⟩ | ⟨h, e⟩ <;> rw [e]
  · exact ⟨fun _ => h, fun _ => by decide⟩
  · exact ⟨fun h' => by simp at h', fun h' => absurd h h'.asymm⟩
  · exact ⟨fun h' => by simp at h', fun h' => absurd h h'.ne⟩
theorem lt_no {a b : Ky} : lt a b = false ↔ ¬ Lt a b := by rw [← Bool.not_eq_true, lt_iff]
theorem cmp_back (a b : Ky) : cmpK b a = - cmpK a b := by
  rcases cmp_cases a b with ⟨h, e⟩ | ⟨h, e⟩ | ⟨h, e⟩ <;> rcases cmp_cases b a with ⟨h', e'⟩ | ⟨h', e'⟩ | ⟨h', e'⟩ <;> rw [e, e'] <;> first
    | rfl
    | exact absurd h' h.asymm
    | (exfalso; first | exact h'.ne h.symm | exact h.ne h'.symm | exact h'.ne h | exact h.ne h')
theorem cmp_zero {a b : Ky} : cmpK a b = 0 ↔ a = b := by
  rcases cmp_cases a b with ⟨h, e⟩ | ⟨h, e⟩ | ⟨h, e⟩ <;> rw [e]
  · exact ⟨fun h' => by omega, fun h' => absurd h' h.ne⟩
  · exact ⟨fun h' => by omega, fun h' => absurd h'.symm h.ne⟩
  · exact ⟨fun _ => h, fun _ => rfl⟩
theorem cmp_ge {a b : Ky} : 0 ≤ cmpK a b ↔ ¬ Lt a b := by
  rcases cmp_cases a b with ⟨h, e⟩ | ⟨h, e⟩ | ⟨h, e⟩ <;> rw [e]
  · exact ⟨fun h' => by omega, fun h' => absurd h h'⟩
  · exact ⟨fun _ => h.asymm, fun _ => by omega⟩
  · exact ⟨fun _ h' => h'.ne h, fun _ => by omega⟩
theorem cmp_small (a b : Ky) : -1 ≤ cmpK a b ∧ cmpK a b ≤ 1 := by
  rcases cmp_cases a b with ⟨h, e⟩ | ⟨h, e⟩ | ⟨h, e⟩ <;> rw [e] <;> decide

/-- Keys in order. -/
def Srt (m : List Ky) : Prop := m.Pairwise Lt
def idK (k : Ky) : Int := k.2
/-- Of keys in order, no two with one Id. -/
structure Good (m : List Ky) : Prop where
  srt : Srt m
  ids : (m.map idK).Nodup
/-- k's place in m. -/
def posK (k : Ky) : List Ky → Nat
  | [] => 0
  | x :: l => if lt x k = true then posK k l + 1 else 0
def putK (m : List Ky) (k : Ky) : List Ky := m.take (posK k m) ++ k :: m.drop (posK k m)
theorem pos_le (k : Ky) : ∀ m, posK k m ≤ m.length
  | [] => Nat.le_refl _
  | x :: l => by unfold posK; split <;> simp [pos_le k l]
theorem pos_eq {k : Ky} : ∀ {m : List Ky} {p : Nat}, p ≤ m.length → (∀ i x, i < p → m[i]? = some x → lt x k = true) → (∀ x, m[p]? = some x → lt x k = false) → posK k m = p
  | [], p, h, _, _ => by simp at h; subst h; rfl
  | y :: l, 0, _, _, h2 => by have := h2 y rfl; simp [posK, this]
  | y :: l, p + 1, h, h1, h2 => by
    have hy := h1 0 y (by omega) rfl
    simp only [posK, hy, if_true]
    rw [pos_eq (p := p) (by simp at h; omega) (fun i x hi hx => h1 (i + 1) x (by omega) (by simpa using hx)) (fun x hx => h2 x (by simpa using hx))]
theorem put_perm (m : List Ky) (k : Ky) : (putK m k).Perm (k :: m) := by
  unfold putK
  refine List.perm_middle.trans ?_
  rw [List.take_append_drop]
theorem length_put (m : List Ky) (k : Ky) : (putK m k).length = m.length + 1 := by rw [(put_perm m k).length_eq]; rfl
theorem mem_put {m : List Ky} {k x : Ky} : x ∈ putK m k ↔ x = k ∨ x ∈ m := by rw [(put_perm m k).mem_iff, List.mem_cons]
theorem put_cons_lt {x k : Ky} {l : List Ky} (h : lt x k = true) : putK (x :: l) k = x :: putK l k := by
  unfold putK
  simp [posK, h]
theorem put_cons_no {x k : Ky} {l : List Ky} (h : lt x k = false) : putK (x :: l) k = k :: x :: l := by
  unfold putK
  simp [posK, h]
theorem put_srt : ∀ {m : List Ky} {k : Ky}, Srt m → k ∉ m → Srt (putK m k)
  | [], k, _, _ => by simp [putK, posK, Srt]
  | x :: l, k, h, hk => by
    have hx := List.pairwise_cons.1 h
    by_cases hl : lt x k = true
    · rw [put_cons_lt hl]
      refine List.pairwise_cons.2 ⟨fun y hy => ?_, put_srt hx.2 (fun h' => hk (List.mem_cons_of_mem _ h'))⟩
      rcases mem_put.1 hy with rfl | hy
      · exact lt_iff.1 hl
      · exact hx.1 y hy
    · have hl' : lt x k = false := by simpa using hl
      rw [put_cons_no hl']
      have hkx : Lt k x := by
        rcases Lt.total (a := k) (b := x) (fun e => hk (by rw [e]; exact List.mem_cons_self)) with h' | h'
        · exact h'
        · exact absurd h' (lt_no.1 hl')
      refine List.pairwise_cons.2 ⟨fun y hy => ?_, h⟩
      rcases List.mem_cons.1 hy with rfl | hy
      · exact hkx
      · exact hkx.trans (hx.1 y hy)
theorem srt_unique : ∀ {a b : List Ky}, Srt a → Srt b → a.Perm b → a = b
  | [], b, _, _, h => (List.nil_perm.1 h).symm
  | x :: a, [], _, _, h => by simp at h
  | x :: a, y :: b, ha, hb, h => by
    have hx := List.pairwise_cons.1 ha
    have hy := List.pairwise_cons.1 hb
    have e : x = y := by
      have h1 : x ∈ y :: b := h.mem_iff.1 List.mem_cons_self
      have h2 : y ∈ x :: a := h.mem_iff.2 List.mem_cons_self
      rcases List.mem_cons.1 h1 with h1 | h1
      · exact h1
      · rcases List.mem_cons.1 h2 with h2 | h2
        · exact h2.symm
        · exact absurd (hy.1 x h1) (hx.1 y h2).asymm
    subst e
    rw [srt_unique hx.2 hy.2 (List.Perm.cons_inv h)]
theorem not_mem_of_id {m : List Ky} {k : Ky} (h : idK k ∉ m.map idK) : k ∉ m := fun h' => h (List.mem_map_of_mem h')
theorem Good.nil : Good [] := ⟨List.Pairwise.nil, List.nodup_nil⟩
theorem Good.put {m : List Ky} {k : Ky} (h : Good m) (hk : idK k ∉ m.map idK) : Good (putK m k) :=
  ⟨put_srt h.srt (not_mem_of_id hk), by
    rw [((put_perm m k).map idK).nodup_iff]
    exact List.nodup_cons.2 ⟨hk, h.ids⟩⟩
theorem Good.sub {m l : List Ky} (h : Good m) (hl : l.Sublist m) : Good l := ⟨h.srt.sublist hl, h.ids.sublist (hl.map idK)⟩
theorem Good.without {m : List Ky} (h : Good m) (i : Nat) : Good (m.eraseIdx i) := h.sub (List.eraseIdx_sublist _ _)
theorem Good.tail {k : Ky} {m : List Ky} (h : Good (k :: m)) : Good m := h.sub (List.sublist_cons_self _ _)
theorem erase_perm : ∀ {m : List Ky} {i : Nat} {k : Ky}, m[i]? = some k → m.Perm (k :: m.eraseIdx i)
  | [], _, _, h => by simp at h
  | x :: l, 0, k, h => by simp at h; subst h; simp
  | x :: l, i + 1, k, h => by
    have := erase_perm (m := l) (i := i) (k := k) (by simpa using h)
    simp only [List.eraseIdx_cons_succ]
    exact (this.cons x).trans (List.Perm.swap _ _ _)
theorem Good.at_ {m : List Ky} (h : Good m) {i j : Nat} {a b : Ky} (ha : m[i]? = some a) (hb : m[j]? = some b) (hid : idK a = idK b) : i = j := by
  have hi : (m.map idK)[i]? = some (idK a) := by rw [List.getElem?_map, ha]; rfl
  have hj : (m.map idK)[j]? = some (idK a) := by rw [List.getElem?_map, hb, hid]; rfl
  have h1 := (List.getElem?_eq_some_iff.1 hi)
  have h2 := (List.getElem?_eq_some_iff.1 hj)
  obtain ⟨l1, e1⟩ := h1
  obtain ⟨l2, e2⟩ := h2
  have := List.pairwise_iff_getElem.1 h.ids
  rcases Nat.lt_trichotomy i j with hlt | heq | hgt
  · exact absurd (e1.trans e2.symm) (this i j l1 l2 hlt)
  · exact heq
  · exact absurd (e2.trans e1.symm) (this j i l2 l1 hgt)
theorem Good.erase_id {m : List Ky} (h : Good m) {i : Nat} {k : Ky} (hk : m[i]? = some k) : idK k ∉ (m.eraseIdx i).map idK := by
  have hp := (erase_perm hk).map idK
  have := hp.nodup_iff.1 h.ids
  exact (List.nodup_cons.1 this).1
end Go.Proofs.Ytlodfipiodlgdaa
