/- Slots and their order; lists of slots in order; where a slot of a length goes at the latest: what is plain of them. -/
import Derived.Test.YtojnkkkgkmgagaaRows
namespace Go.Proofs.Ytojnkkkgkmgagaa

/-- A slot: its number, its group, its first tick, the tick behind its last. -/
abbrev Ky := Int × Int × Int × Int
def idK (k : Ky) : Int := k.1
def grK (k : Ky) : Int := k.2.1
def frK (k : Ky) : Int := k.2.2.1
def toK (k : Ky) : Int := k.2.2.2
def c1 (a b : Int) : Int := if a < b then -1 else if b < a then 1 else 0
def pick1 (x y : Int) : Int := if x = 0 then y else x
def cmpK (a b : Ky) : Int := pick1 (c1 a.2.2.1 b.2.2.1) (c1 a.1 b.1)
/-- a stands ahead of b. -/
def Lt (a b : Ky) : Prop := a.2.2.1 < b.2.2.1 ∨ a.2.2.1 = b.2.2.1 ∧ a.1 < b.1
def lt (a b : Ky) : Bool := decide (cmpK a b < 0)

theorem c1_cases (a b : Int) : (a < b ∧ c1 a b = -1) ∨ (b < a ∧ c1 a b = 1) ∨ (a = b ∧ c1 a b = 0) := by
  unfold c1
  by_cases h : a < b
  · exact .inl ⟨h, if_pos h⟩
  · rw [if_neg h]
    by_cases h2 : b < a
    · exact .inr (.inl ⟨h2, if_pos h2⟩)
    · rw [if_neg h2]; exact .inr (.inr ⟨by omega, rfl⟩)
theorem lt_iff {a b : Ky} : lt a b = true ↔ Lt a b := by
  obtain ⟨a0, a1, a2, a3⟩ := a
  obtain ⟨b0, b1, b2, b3⟩ := b
  simp only [lt, cmpK, Lt, pick1, decide_eq_true_eq]
  rcases c1_cases a2 b2 with ⟨h1, e1⟩ | ⟨h1, e1⟩ | ⟨h1, e1⟩ <;> rcases c1_cases a0 b0 with ⟨h2, e2⟩ | ⟨h2, e2⟩ | ⟨h2, e2⟩ <;> simp [e1, e2] <;> omega
theorem lt_no {a b : Ky} : lt a b = false ↔ ¬ Lt a b := by rw [← Bool.not_eq_true, lt_iff]
theorem lt_eq (a b : Ky) : lt a b = (decide (a.2.2.1 < b.2.2.1) || (decide (a.2.2.1 = b.2.2.1) && decide (a.1 < b.1))) := by
  rw [Bool.eq_iff_iff, lt_iff]; simp [Lt]
theorem Lt.irrefl (a : Ky) : ¬ Lt a a := by unfold Lt; omega
theorem Lt.asymm {a b : Ky} (h : Lt a b) : ¬ Lt b a := by unfold Lt at *; omega
theorem Lt.trans {a b c : Ky} (h : Lt a b) (k : Lt b c) : Lt a c := by unfold Lt at *; omega
theorem Lt.ne {a b : Ky} (h : Lt a b) : a ≠ b := fun e => Lt.irrefl b (e ▸ h)
theorem Lt.total {a b : Ky} (h : idK a ≠ idK b) : Lt a b ∨ Lt b a := by unfold Lt idK at *; omega

/-- Slots in order. -/
def Srt (m : List Ky) : Prop := m.Pairwise Lt
/-- A slot that has a length, and stands where it may; apart from another. -/
def Rt (k : Ky) : Prop := 0 ≤ k.2.2.1 ∧ k.2.2.1 < k.2.2.2 ∧ k.2.2.2 ≤ 1099511627776
def Ap (a b : Ky) : Prop := a.2.1 = b.2.1 → a.2.2.2 ≤ b.2.2.1 ∨ b.2.2.2 ≤ a.2.2.1
/-- Slots in order, no two with one Id, those of one group apart. -/
structure Good (m : List Ky) : Prop where
  srt : Srt m
  ids : (m.map idK).Nodup
  rt : ∀ k ∈ m, Rt k
  ap : m.Pairwise Ap
/-- k's place in m. -/
def posK (k : Ky) : List Ky → Nat
  | [] => 0
  | x :: l => if lt x k = true then posK k l + 1 else 0
def putK (m : List Ky) (k : Ky) : List Ky := m.take (posK k m) ++ k :: m.drop (posK k m)
theorem pos_le (k : Ky) : ∀ m, posK k m ≤ m.length
  | [] => Nat.le_refl _
  | x :: l => by unfold posK; split <;> simp [pos_le k l]
theorem pos_eq {k : Ky} : ∀ {m : List Ky} {p : Nat}, p ≤ m.length → (∀ i x, i < p → m[i]? = some x → lt x k = true) → (∀ x, m[p]? = some x → lt x k = false) → posK k m = p
  | [], p, h, _, _ => by simp at h; subst h; rfl
  | y :: l, 0, _, _, h2 => by have := h2 y rfl; simp [posK, this]
  | y :: l, p + 1, h, h1, h2 => by
    have hy := h1 0 y (by omega) rfl
    simp only [posK, hy, if_true]
    rw [pos_eq (p := p) (by simp at h; omega) (fun i x hi hx => h1 (i + 1) x (by omega) (by simpa using hx)) (fun x hx => h2 x (by simpa using hx))]
theorem put_perm (m : List Ky) (k : Ky) : (putK m k).Perm (k :: m) := by
  unfold putK
  refine List.perm_middle.trans ?_
  rw [List.take_append_drop]
theorem length_put (m : List Ky) (k : Ky) : (putK m k).length = m.length + 1 := by rw [(put_perm m k).length_eq]; rfl
theorem mem_put {m : List Ky} {k x : Ky} : x ∈ putK m k ↔ x = k ∨ x ∈ m := by rw [(put_perm m k).mem_iff, List.mem_cons]
theorem put_cons_lt {x k : Ky} {l : List Ky} (h : lt x k = true) : putK (x :: l) k = x :: putK l k := by
  unfold putK
  simp [posK, h]
theorem put_cons_no {x k : Ky} {l : List Ky} (h : lt x k = false) : putK (x :: l) k = k :: x :: l := by
  unfold putK
  simp [posK, h]
theorem put_srt : ∀ {m : List Ky} {k : Ky}, Srt m → idK k ∉ m.map idK → Srt (putK m k)
  | [], k, _, _ => by simp [putK, posK, Srt]
  | x :: l, k, h, hk => by
    have hx := List.pairwise_cons.1 h
    have hkx : idK k ≠ idK x := fun e => hk (by rw [e]; exact List.mem_cons_self)
    by_cases hl : lt x k = true
    · rw [put_cons_lt hl]
      refine List.pairwise_cons.2 ⟨fun y hy => ?_, put_srt hx.2 (fun h' => hk (List.mem_cons_of_mem _ h'))⟩
      rcases mem_put.1 hy with rfl | hy
      · exact lt_iff.1 hl
      · exact hx.1 y hy
    · have hl' : lt x k = false := by simpa using hl
      rw [put_cons_no hl']
      have hkx : Lt k x := by
        rcases Lt.total hkx with h' | h'
        · exact h'
        · exact absurd h' (lt_no.1 hl')
      refine List.pairwise_cons.2 ⟨fun y hy => ?_, h⟩
      rcases List.mem_cons.1 hy with rfl | hy
      · exact hkx
      · exact hkx.trans (hx.1 y hy)
theorem srt_unique : ∀ {a b : List Ky}, Srt a → Srt b → a.Perm b → a = b
  | [], b, _, _, h => (List.nil_perm.1 h).symm
  | x :: a, [], _, _, h => by simp at h
  | x :: a, y :: b, ha, hb, h => by
    have hx := List.pairwise_cons.1 ha
    have hy := List.pairwise_cons.1 hb
    have e : x = y := by
      have h1 : x ∈ y :: b := h.mem_iff.1 List.mem_cons_self
      have h2 : y ∈ x :: a := h.mem_iff.2 List.mem_cons_self
      rcases List.mem_cons.1 h1 with h1 | h1
      · exact h1
      · rcases List.mem_cons.1 h2 with h2 | h2
        · exact h2.symm
        · exact absurd (hy.1 x h1) (hx.1 y h2).asymm
    subst e
    rw [srt_unique hx.2 hy.2 (List.Perm.cons_inv h)]
theorem Ap.symm {a b : Ky} (h : Ap a b) : Ap b a := fun e => (h e.symm).symm
theorem Good.nil : Good [] := ⟨List.Pairwise.nil, List.nodup_nil, fun _ h => by simp at h, List.Pairwise.nil⟩
theorem Good.put {m : List Ky} {k : Ky} (h : Good m) (hk : idK k ∉ m.map idK) (hr : Rt k) (ha : ∀ x ∈ m, Ap x k) : Good (putK m k) :=
  ⟨put_srt h.srt hk, by
    rw [((put_perm m k).map idK).nodup_iff]
    exact List.nodup_cons.2 ⟨hk, h.ids⟩, fun x hx => by
    rcases mem_put.1 hx with rfl | hx
    · exact hr
    · exact h.rt x hx, by
    refine ((put_perm m k).pairwise_iff (fun {_ _} h => Ap.symm h)).2 (List.pairwise_cons.2 ⟨fun x hx => (ha x hx).symm, h.ap⟩)⟩
theorem Good.sub {m l : List Ky} (h : Good m) (hl : l.Sublist m) : Good l := ⟨h.srt.sublist hl, h.ids.sublist (hl.map idK), fun k hk => h.rt k (hl.subset hk), h.ap.sublist hl⟩
theorem Good.without {m : List Ky} (h : Good m) (i : Nat) : Good (m.eraseIdx i) := h.sub (List.eraseIdx_sublist _ _)
theorem Good.tail {k : Ky} {m : List Ky} (h : Good (k :: m)) : Good m := h.sub (List.sublist_cons_self _ _)
theorem erase_perm : ∀ {m : List Ky} {i : Nat} {k : Ky}, m[i]? = some k → m.Perm (k :: m.eraseIdx i)
  | [], _, _, h => by simp at h
  | x :: l, 0, k, h => by simp at h; subst h; simp
  | x :: l, i + 1, k, h => by
    have := erase_perm (m := l) (i := i) (k := k) (by simpa using h)
    simp only [List.eraseIdx_cons_succ]
    exact (this.cons x).trans (List.Perm.swap _ _ _)
theorem Good.at_ {m : List Ky} (h : Good m) {i j : Nat} {a b : Ky} (ha : m[i]? = some a) (hb : m[j]? = some b) (hid : idK a = idK b) : i = j := by
  have hi : (m.map idK)[i]? = some (idK a) := by rw [List.getElem?_map, ha]; rfl
  have hj : (m.map idK)[j]? = some (idK a) := by rw [List.getElem?_map, hb, hid]; rfl
  have h1 := (List.getElem?_eq_some_iff.1 hi)
  have h2 := (List.getElem?_eq_some_iff.1 hj)
  obtain ⟨l1, e1⟩ := h1
  obtain ⟨l2, e2⟩ := h2
  have := List.pairwise_iff_getElem.1 h.ids
  rcases Nat.lt_trichotomy i j with hlt | heq | hgt
  · exact absurd (e1.trans e2.symm) (this i j l1 l2 hlt)
  · exact heq
  · exact absurd (e2.trans e1.symm) (this j i l2 l1 hgt)
theorem Good.same {m : List Ky} (h : Good m) {x y : Ky} (hx : x ∈ m) (hy : y ∈ m) (hid : idK x = idK y) : x = y := by
  obtain ⟨i, hi⟩ := List.getElem?_of_mem hx
  obtain ⟨j, hj⟩ := List.getElem?_of_mem hy
  have := h.at_ hi hj hid
  subst this
  rw [hi] at hj
  cases hj; rfl
theorem Good.erase_id {m : List Ky} (h : Good m) {i : Nat} {k : Ky} (hk : m[i]? = some k) : idK k ∉ (m.eraseIdx i).map idK := by
  have hp := (erase_perm hk).map idK
  have := hp.nodup_iff.1 h.ids
  exact (List.nodup_cons.1 this).1
theorem ids_none {m : List Ky} {id : Int} : (∀ x ∈ m, idK x ≠ id) ↔ id ∉ m.map idK := by
  constructor
  · intro h h2
    obtain ⟨x, hx, rfl⟩ := List.mem_map.1 h2
    exact h x hx rfl
  · intro h x hx e
    exact h (List.mem_map.2 ⟨x, hx, e⟩)

/-! Where a slot of length n goes at the latest, not above a limit, apart from those of a group. -/
/-- One slot looked at. -/
def stepL (g n at_ : Int) (s : Ky) : Int := if s.2.1 = g ∧ at_ < s.2.2.2 then min at_ (s.2.2.1 - n) else at_
/-- Those of a list, the last ahead. -/
def latL (g n a : Int) : List Ky → Int
  | [] => a
  | s :: l => stepL g n (latL g n a l) s
def Free (g n x : Int) (s : Ky) : Prop := s.2.1 = g → s.2.2.2 ≤ x ∨ x + n ≤ s.2.2.1
theorem latL_append (g n a : Int) : ∀ l k, latL g n a (l ++ k) = latL g n (latL g n a k) l
  | [], k => rfl
  | s :: l, k => by simp only [List.cons_append, latL]; rw [latL_append g n a l k]
theorem step_le (g n a : Int) (s : Ky) : stepL g n a s ≤ a := by unfold stepL; split <;> omega
theorem lat_le (g n a : Int) : ∀ l, latL g n a l ≤ a
  | [] => Int.le_refl _
  | s :: l => Int.le_trans (step_le g n _ s) (lat_le g n a l)
theorem step_ge (g n a : Int) (s : Ky) (hn : n ≤ 1048576) (hs : Rt s) (ha : -1048576 ≤ a) : -1048576 ≤ stepL g n a s := by
  obtain ⟨h0, _, _⟩ := hs
  unfold stepL; split <;> omega
theorem lat_ge (g n a : Int) (hn : n ≤ 1048576) (ha : -1048576 ≤ a) : ∀ l, (∀ s ∈ l, Rt s) → -1048576 ≤ latL g n a l
  | [], _ => ha
  | s :: l, h => step_ge g n _ s hn (h s List.mem_cons_self) (lat_ge g n a hn ha l (fun x hx => h x (List.mem_cons_of_mem _ hx)))
/-- It is apart from all of the group. -/
theorem lat_free (g n a : Int) (hn : 1 ≤ n) : ∀ {l : List Ky}, Good l → ∀ s ∈ l, Free g n (latL g n a l) s
  | [], _, s, hs => by simp at hs
  | t :: l, h, s, hs => by
    have IH := lat_free g n a hn h.tail
    have hap := (List.pairwise_cons.1 h.ap).1
    have hsr := (List.pairwise_cons.1 h.srt).1
    have ht := h.rt t List.mem_cons_self
    intro hg
    simp only [latL]
    rcases List.mem_cons.1 hs with rfl | hs
    · unfold stepL; split <;> omega
    · have h1 := IH s hs hg
      have h2 := hap s hs
      have h3 := hsr s hs
      have h4 := h.rt s (List.mem_cons_of_mem _ hs)
      unfold Lt at h3
      unfold Rt at ht h4
      unfold stepL
      split
      · rename_i hc
        have h5 := h2 (by rw [hc.1, hg])
        omega
      · exact h1
/-- Whatever is greater, and not above the limit, isn't. -/
theorem lat_most (g n a : Int) : ∀ (l : List Ky) (x : Int), latL g n a l < x → x ≤ a → ∃ s ∈ l, ¬ Free g n x s
  | [], x, h1, h2 => by simp only [latL] at h1; omega
  | t :: l, x, h1, h2 => by
    simp only [latL] at h1
    by_cases hx : latL g n a l < x
    · obtain ⟨s, hs, hf⟩ := lat_most g n a l x hx h2
      exact ⟨s, List.mem_cons_of_mem _ hs, hf⟩
    · unfold stepL at h1
      split at h1
      · rename_i hc
        exact ⟨t, List.mem_cons_self, fun hf => by have := hf hc.1; omega⟩
      · omega
/-- So it is known by these. -/
theorem lat_eq {g n a : Int} (hn : 1 ≤ n) {l : List Ky} (h : Good l) {x : Int} (h0 : x ≤ a) (h1 : ∀ s ∈ l, Free g n x s) (h2 : ∀ y, x < y → y ≤ a → ∃ s ∈ l, ¬ Free g n y s) : latL g n a l = x := by
  have k0 := lat_le g n a l
  have k1 := lat_free g n a hn h
  rcases Int.lt_trichotomy (latL g n a l) x with hlt | heq | hgt
  · obtain ⟨s, hs, hf⟩ := lat_most g n a l x hlt h0
    exact absurd (h1 s hs) hf
  · exact heq
  · obtain ⟨s, hs, hf⟩ := h2 _ hgt k0
    exact absurd (k1 s hs) hf
/-- Other groups don't matter. -/
theorem lat_filter (g n a : Int) (f : Ky → Bool) (hf : ∀ s : Ky, s.2.1 = g → f s = true) : ∀ l : List Ky, latL g n a (l.filter f) = latL g n a l
  | [] => rfl
  | s :: l => by
    by_cases h : f s = true
    · rw [List.filter_cons_of_pos h]; simp only [latL]; rw [lat_filter g n a f hf l]
    · rw [List.filter_cons_of_neg h]; simp only [latL]; rw [lat_filter g n a f hf l]
      unfold stepL
      rw [if_neg (fun hc => h (hf s hc.1))]
theorem Free.ap {id g n x : Int} {s : Ky} (h : Free g n x s) : Ap s (id, g, x, x + n) := fun e => by
  have := h e
  exact this
end Go.Proofs.Ytojnkkkgkmgagaa
