/- A table of names as it lies in memory. -/
import Derived.Test.YtfendnccnhmllaaIc
import Derived.Test.YtfendnccnhmllaaNm
import Derived.Test.YtfendnccnhmllaaCl
namespace Go.Proofs.Ytfendnccnhmllaa
open Go.RowKit

/-- Rows as cells. -/
def flat : List (ByteArray × Nat) → List Value
  | [] => []
  | r :: l => .string r.1 :: .int .i64 (r.2 : Int) :: flat l
theorem length_flat : ∀ l, (flat l).length = l.length * 2
  | [] => rfl
  | r :: l => by simp [flat, length_flat l]; omega
theorem flat_append : ∀ a b, flat (a ++ b) = flat a ++ flat b
  | [], _ => rfl
  | r :: a, b => by simp [flat, flat_append a b]
theorem flat_take : ∀ (l : List (ByteArray × Nat)) (i : Nat), flat (l.take i) = (flat l).take (i * 2)
  | [], i => by simp [flat]
  | r :: l, 0 => by simp [flat]
  | r :: l, i + 1 => by rw [show (i + 1) * 2 = i * 2 + 2 by omega]; simp [flat, flat_take l i]
theorem flat_drop : ∀ (l : List (ByteArray × Nat)) (i : Nat), flat (l.drop i) = (flat l).drop (i * 2)
  | [], i => by simp [flat]
  | r :: l, 0 => by simp
  | r :: l, i + 1 => by rw [show (i + 1) * 2 = i * 2 + 2 by omega]; simp [flat, flat_drop l i]
theorem flat_name : ∀ {l : List (ByteArray × Nat)} {i : Nat} {r}, l[i]? = some r → (flat l)[i * 2]? = some (.string r.1)
  | [], i, r, h => by simp at h
  | q :: l, 0, r, h => by simp at h; simp [flat, h]
  | q :: l, i + 1, r, h => by rw [show (i + 1) * 2 = i * 2 + 2 by omega]; simpa [flat] using flat_name (l := l) (i := i) (by simpa using h)
theorem flat_num : ∀ {l : List (ByteArray × Nat)} {i : Nat} {r}, l[i]? = some r → (flat l)[i * 2 + 1]? = some (.int .i64 (r.2 : Int))
  | [], i, r, h => by simp at h
  | q :: l, 0, r, h => by simp at h; simp [flat, h]
  | q :: l, i + 1, r, h => by rw [show (i + 1) * 2 + 1 = i * 2 + 1 + 2 by omega]; simpa [flat] using flat_num (l := l) (i := i) (by simpa using h)
theorem flat_one : ∀ (l : List (ByteArray × Nat)), ∀ u ∈ flat l, u.oneCell' = true
  | [], u, h => by simp [flat] at h
  | r :: l, u, h => by
    simp only [flat, List.mem_cons] at h
    rcases h with rfl | rfl | h
    · rfl
    · rfl
    · exact flat_one l u h

/-- The rows of the names xs: each with its number, by names. -/
structure Table (xs : List ByteArray) (rows : List (ByteArray × Nat)) : Prop where
  names : rows.map (·.1) = srt xs
  nums : ∀ r ∈ rows, xs[r.2]? = some r.1
  nodup : xs.Nodup
section
variable {xs : List ByteArray} {rows : List (ByteArray × Nat)}
theorem Table.nil : Table [] [] := ⟨rfl, by simp, List.nodup_nil⟩
theorem Table.len (h : Table xs rows) : rows.length = xs.length := by
  have := congrArg List.length h.names
  rwa [List.length_map, length_srt] at this
theorem Table.at_ (h : Table xs rows) {i : Nat} {r : ByteArray × Nat} (hr : rows[i]? = some r) : (srt xs)[i]? = some r.1 := by
  rw [← h.names, List.getElem?_map, hr]; rfl
theorem Table.mem (h : Table xs rows) {r : ByteArray × Nat} (hr : r ∈ rows) : r.1 ∈ xs := (mem_srt xs).1 (by rw [← h.names]; exact List.mem_map_of_mem hr)
theorem Table.put (h : Table xs rows) {x : ByteArray} (hx : x ∉ xs) : Table (xs ++ [x]) (rows.take (pos x (srt xs)) ++ (x, xs.length) :: rows.drop (pos x (srt xs))) := by
  refine ⟨?_, ?_, ?_⟩
  · rw [srt_snoc, ins, ← h.names]
    simp
  · intro r hr
    simp only [List.mem_append, List.mem_cons] at hr
    have old : ∀ r, r ∈ rows → (xs ++ [x])[r.2]? = some r.1 := fun r hr => by
      have := h.nums r hr
      rw [List.getElem?_append_left (List.getElem?_eq_some_iff.1 this).1]; exact this
    rcases hr with hr | rfl | hr
    · exact old r (List.mem_of_mem_take hr)
    · simp
    · exact old r (List.mem_of_mem_drop hr)
  · rw [List.nodup_append]
    refine ⟨h.nodup, by simp, ?_⟩
    intro a ha b hb
    rw [List.mem_singleton.1 hb]
    exact fun e => hx (e ▸ ha)
/-- The row at x's place, where x is there. -/
theorem Table.hit (h : Table xs rows) {x : ByteArray} (hx : x ∈ xs) : ∃ k, rows[pos x (srt xs)]? = some (x, k) ∧ xs[k]? = some x := by
  have hx' : x ∈ srt xs := (mem_srt xs).2 hx
  obtain ⟨i, hi⟩ := List.getElem?_of_mem hx'
  have hp : pos x (srt xs) = i := by
    refine pos_eq (by have := (List.getElem?_eq_some_iff.1 hi).1; omega) (fun j y hj hy => rising_at (rising_srt h.nodup) hy hi hj) (fun y hy => ?_)
    rw [hi] at hy
    cases hy
    exact lt_irrefl x
  rw [hp]
  rw [← h.names, List.getElem?_map] at hi
  obtain ⟨⟨y, k⟩, hr, hy⟩ := Option.map_eq_some_iff.1 hi
  have : y = x := hy
  subst this
  exact ⟨k, hr, h.nums _ (List.mem_of_getElem? hr)⟩
theorem Table.miss (h : Table xs rows) {x : ByteArray} (hx : x ∉ xs) {k : Nat} {r : ByteArray × Nat} (hr : rows[k]? = some r) : r.1 ≠ x :=
  fun e => hx (e ▸ h.mem (List.mem_of_getElem? hr))
end

section
variable {w w' : World} {B : Nat} {e : TypeId} {size : Nat} {v : Value} {n : Nat} {cs : List Value}
theorem own_same (h : w.ownsRow B e size v n cs) (hs : ∀ k, v.ownBlock = some k → w'.heap[k]? = w.heap[k]?) : w'.ownsRow B e size v n cs := by
  refine ⟨h.1, ?_⟩
  rcases h.2 with hn | ⟨g, cap, cur, rfl, hb, hg, rest⟩
  · exact .inl hn
  · exact .inr ⟨g, cap, cur, rfl, hb, by rw [hs g rfl]; exact hg, rest⟩
theorem own_form (h : w.ownsRow B e size v n cs) : ∃ a cap, v = .slice a n cap ∧ n ≤ cap ∧ (0 < n → ∃ g, a = some ⟨g, 0, none⟩ ∧ ∀ j u, cs[j]? = some u → w.cell? ⟨g, j, none⟩ = some u) := by
  rcases h.2 with ⟨rfl, rfl⟩ | ⟨g, cap, cur, rfl, hb, hg, hnc, _, hsz, ht⟩
  · exact ⟨none, 0, rfl, Nat.le_refl _, fun h => by omega⟩
  · refine ⟨_, cap, rfl, hnc, fun _ => ⟨g, rfl, fun j u hu => ?_⟩⟩
    rw [cell_of_row w g j cur e (0, 0) hg]
    rw [← ht, List.getElem?_take] at hu
    split at hu
    · rw [← Array.getElem?_toList]; exact hu
    · cases hu
theorem own_lt (h : w.ownsRow B e size v n cs) {k : Nat} (hk : v.ownBlock = some k) : B ≤ k ∧ k < w.heap.size := by
  rcases h.2 with ⟨rfl, _⟩ | ⟨g, cap, cur, rfl, hb, hg, _⟩
  · cases hk
  · have : g = k := by simpa [Value.ownBlock] using hk
    subst this
    refine ⟨hb, ?_⟩
    rcases Nat.lt_or_ge g w.heap.size with hlt | hge
    · exact hlt
    · rw [Array.getElem?_eq_none hge] at hg; cases hg
end

/-- A table at p with room for so many, with the names xs; its blocks are of S, all from B on. -/
structure Idx (S : Nat → Prop) (B : Nat) (w : World) (p room : Nat) (xs : List ByteArray) : Prop where
  r1 : 1 ≤ room
  r2 : room ≤ 256
  len : xs.length ≤ room
  inS : ∀ k, S k → B ≤ k ∧ k < w.heap.size
  sp : S p
  body : ∃ vn vr rows, Lies w p 46 #[.int .i64 (room : Int), vn, vr] ∧ w.ownsRow B 9 1 vn xs.length (xs.map .string) ∧ w.ownsRow B 50 2 vr xs.length (flat rows) ∧ Table xs rows ∧
    (∀ k, vn.ownBlock = some k → S k ∧ k ≠ p) ∧ (∀ k, vr.ownBlock = some k → S k ∧ k ≠ p ∧ vn.ownBlock ≠ some k)
section
variable {S T : Nat → Prop} {B p room : Nat} {w w' : World} {xs : List ByteArray}
theorem Idx.same (h : Idx S B w p room xs) (hsz : w.heap.size ≤ w'.heap.size) (hs : ∀ k, S k → w'.heap[k]? = w.heap[k]?) : Idx S B w' p room xs := by
  obtain ⟨vn, vr, rows, hp, hn, hr, ht, h1, h2⟩ := h.body
  refine ⟨h.r1, h.r2, h.len, fun k hk => ⟨(h.inS k hk).1, Nat.lt_of_lt_of_le (h.inS k hk).2 hsz⟩, h.sp, vn, vr, rows, ?_, own_same hn (fun k hk => hs k (h1 k hk).1), own_same hr (fun k hk => hs k (h2 k hk).1), ht, h1, h2⟩
  unfold Lies; rw [hs p h.sp]; exact hp
theorem Idx.turns (h : Idx S B w p room xs) (ht : Turns T w w') (hd : ∀ k, S k → ¬ T k) : Idx S B w' p room xs :=
  h.same ht.size (fun k hk => ht.block k (h.inS k hk).2 (hd k hk))
theorem Idx.more (h : Idx S B w p room xs) (hb : Below w.heap.size w w') : Idx S B w' p room xs :=
  h.same hb.size (fun k hk => hb.block k (h.inS k hk).2)
theorem Idx.drewN (h : Idx S B w p room xs) (n : Nat) : Idx S B (w.drewN n) p room xs := h.same (Nat.le_refl _) (fun _ _ => rfl)
theorem Idx.nodup (h : Idx S B w p room xs) : xs.Nodup := by obtain ⟨_, _, _, _, _, _, ht, _⟩ := h.body; exact ht.nodup
theorem Idx.eq {ys : List ByteArray} (h : Idx S B w p room xs) (e : xs = ys) : Idx S B w p room ys := e ▸ h
end

/-- A new table. -/
def News (B n : Nat) (w : World) (e : Ending) (w' : World) : Prop :=
  ∃ p, e = .returned (.tuple #[.pointer (some ⟨p, 0, none⟩), .int .i64 0]) ∧ w.heap.size ≤ p ∧ Idx (fun k => k = p) B w' p n [] ∧ Below w.heap.size w w'

set_option maxHeartbeats 400000 in
theorem new_no (k : Int) (w : World) (h : k < 1 ∨ 256 < k) :
    Calls Try.prog 10 #[.int .i64 k] w (Says (.tuple #[.pointer none, .int .i64 1]) w) := by
  rcases h with h | h
  · go_enter Try.func10, Try.ntmps10
    go_wp2
    go_ret2
    exact ⟨rfl, rfl⟩
  · have h' : ¬ k < 1 := by omega
    go_enter Try.func10, Try.ntmps10
    go_wp2
    go_ret2
    exact ⟨rfl, rfl⟩

set_option maxHeartbeats 400000 in
theorem new {B : Nat} (n : Nat) (w : World) (hB : B ≤ w.heap.size) (h1 : 1 ≤ n) (h2 : n ≤ 256) :
    Calls Try.prog 10 #[.int .i64 (n : Int)] w (News B n w) := by
  have t1 : decide ((n : Int) < 1) = false := by simp; omega
  have t2 : decide ((256 : Int) < (n : Int)) = false := by simp; omega
  have HI : Hid (Idx (fun k => k = w.heap.size) B (w.alloc (.cells #[.int .i64 (n : Int), .slice none 0 0, .slice none 0 0] 46)) w.heap.size n []) := by
    refine ⟨h1, h2, Nat.zero_le _, fun k hk => by subst hk; exact ⟨hB, by simp⟩, rfl, .slice none 0 0, .slice none 0 0, [], Lies.made w 46 _, World.ownsRow_nil _ _ _ _, World.ownsRow_nil _ _ _ _, Table.nil, (fun k hk => by cases hk), (fun k hk => by cases hk)⟩
  go_enter Try.func10, Try.ntmps10
  go_wp2
  go_ret2
  exact ⟨w.heap.size, rfl, Nat.le_refl _, HI.out, (Below.refl _ _).alloc (Nat.le_refl _) _⟩
end Go.Proofs.Ytfendnccnhmllaa
