/- Two tables beside each other; the names of a list, in whichever order they are put. -/
import Derived.Test.YtfendnccnhmllaaKeeps
namespace Go.Proofs.Ytfendnccnhmllaa
open Go.RowKit

/-- The names xs are those of z; there are no more of them than names in z. -/
def Of (z xs : List ByteArray) : Prop := xs.length ≤ z.countP nm ∧ ∀ a, a ∈ xs ↔ nm a = true ∧ a ∈ z
theorem Of.nil : Of [] [] := ⟨Nat.le_refl _, fun a => by simp⟩
theorem Of.next {z xs : List ByteArray} {s : ByteArray} (h : Of z xs) (hc : (z ++ [s]).countP nm ≤ 255) : Of (z ++ [s]) (next 256 xs s) := by
  have hle : z.countP nm ≤ (z ++ [s]).countP nm := by rw [List.countP_append]; omega
  by_cases hn : nm s = true
  · have hcs : (z ++ [s]).countP nm = z.countP nm + 1 := by rw [List.countP_append]; simp [hn]
    by_cases hx : s ∈ xs
    · rw [next_no (by simp [hx])]
      refine ⟨Nat.le_trans h.1 hle, fun a => ?_⟩
      rw [h.2 a]
      constructor
      · exact fun ha => ⟨ha.1, List.mem_append_left _ ha.2⟩
      · rintro ⟨h1, h2⟩
        refine ⟨h1, ?_⟩
        rcases List.mem_append.1 h2 with h2 | h2
        · exact h2
        · rw [List.mem_singleton.1 h2]; exact ((h.2 s).1 hx).2
    · have := h.1
      rw [next_yes ⟨hn, hx, by omega⟩]
      refine ⟨by rw [hcs]; simp; exact h.1, fun a => ?_⟩
      simp only [List.mem_append, List.mem_singleton, h.2 a]
      constructor
      · rintro (ha | rfl)
        · exact ⟨ha.1, .inl ha.2⟩
        · exact ⟨hn, .inr rfl⟩
      · rintro ⟨h1, h2 | h2⟩
        · exact .inl ⟨h1, h2⟩
        · exact .inr h2
  · rw [next_no (fun h => hn h.1)]
    refine ⟨Nat.le_trans h.1 hle, fun a => ?_⟩
    rw [h.2 a]
    constructor
    · exact fun ha => ⟨ha.1, List.mem_append_left _ ha.2⟩
    · rintro ⟨h1, h2⟩
      refine ⟨h1, ?_⟩
      rcases List.mem_append.1 h2 with h2 | h2
      · exact h2
      · rw [List.mem_singleton.1 h2] at h1; exact absurd h1 hn
theorem Of.step {l xs : List ByteArray} {k : Nat} {s : ByteArray} (h : Of (l.take k) xs) (hs : l[k]? = some s) (hc : l.countP nm ≤ 255) : Of (l.take (k + 1)) (Go.Proofs.Ytfendnccnhmllaa.next 256 xs s) := by
  have e : l.take (k + 1) = l.take k ++ [s] := by rw [List.take_add_one, hs]; rfl
  rw [e]
  refine h.next ?_
  rw [← e]
  have := List.take_append_drop (k + 1) l
  have h2 : (l.take (k + 1)).countP nm ≤ l.countP nm := by
    conv => rhs; rw [← this, List.countP_append]
    omega
  omega

/-- l, begun at place t. -/
def rot (t : Nat) (l : List ByteArray) : List ByteArray := l.drop t ++ l.take t
theorem rot_length (t : Nat) (l : List ByteArray) (h : t ≤ l.length) : (rot t l).length = l.length := by simp [rot]; omega
theorem rot_count (t : Nat) (l : List ByteArray) : (rot t l).countP nm = l.countP nm := by
  rw [rot, List.countP_append, Nat.add_comm, ← List.countP_append, List.take_append_drop]
theorem rot_mem (t : Nat) (l : List ByteArray) (a : ByteArray) : a ∈ rot t l ↔ a ∈ l := by
  have e := List.take_append_drop t l
  constructor
  · intro h
    rcases List.mem_append.1 h with h | h
    · exact List.mem_of_mem_drop h
    · exact List.mem_of_mem_take h
  · intro h
    rw [← e] at h
    rcases List.mem_append.1 h with h | h
    · exact List.mem_append_right _ h
    · exact List.mem_append_left _ h
theorem rot_at (t : Nat) (l : List ByteArray) (k : Nat) (hk : k < l.length) (ht : t < l.length) : (rot t l)[k]? = l[(k + t) % l.length]? := by
  rw [rot]
  by_cases h : k < (l.drop t).length
  · rw [List.getElem?_append_left h, List.getElem?_drop]
    rw [List.length_drop] at h
    rw [Nat.mod_eq_of_lt (by omega), Nat.add_comm]
  · rw [List.getElem?_append_right (by omega)]
    rw [List.length_drop] at h ⊢
    rw [Nat.mod_eq_sub_mod (by omega), Nat.mod_eq_of_lt (by omega), List.getElem?_take, if_pos (by omega)]
    congr 1; omega

/-- In W, behind w0, there are two tables apart from each other. -/
def Two (w0 : World) (p : Nat) (xs : List ByteArray) (q : Nat) (ys : List ByteArray) (W : World) : Prop :=
  ∃ S T, Idx S w0.heap.size W p 256 xs ∧ Idx T w0.heap.size W q 256 ys ∧ (∀ k, S k → ¬ T k) ∧ Below w0.heap.size w0 W
/-- It answers something, and so the tables are. -/
def TwoPut (w0 : World) (p : Nat) (xs : List ByteArray) (q : Nat) (ys : List ByteArray) (e : Ending) (W : World) : Prop := ∃ v, e = .returned v ∧ Two w0 p xs q ys W
def TwoFind (b : Bool) (w0 : World) (p : Nat) (xs : List ByteArray) (q : Nat) (ys : List ByteArray) (e : Ending) (W : World) : Prop := ∃ v : Int, e = .returned (.tuple #[.int .i64 v, .bool b]) ∧ Two w0 p xs q ys W
def TwoAll (n : Nat) (l : List ByteArray) (w0 : World) (p : Nat) (xs : List ByteArray) (q : Nat) (ys : List ByteArray) (W : World) (e : Ending) (W' : World) : Prop :=
  ∃ b cap, e = .returned (.slice (some ⟨b, 0, none⟩) n cap) ∧ Reads W' (some ⟨b, 0, none⟩) l ∧ Two w0 p xs q ys W' ∧ Below W.heap.size W W'
section
variable {w0 W W' : World} {p q : Nat} {xs ys : List ByteArray}
theorem Two.swap (h : Two w0 p xs q ys W) : Two w0 q ys p xs W :=
  let ⟨S, T, h1, h2, h3, h4⟩ := h
  ⟨T, S, h2, h1, fun k hT hS => h3 k hS hT, h4⟩
theorem Two.below (h : Two w0 p xs q ys W) : Below w0.heap.size w0 W := let ⟨_, _, _, _, _, h4⟩ := h; h4
theorem Two.drewN (h : Two w0 p xs q ys W) (n : Nat) : Two w0 p xs q ys (W.drewN n) :=
  let ⟨S, T, h1, h2, h3, h4⟩ := h
  ⟨S, T, h1.drewN n, h2.drewN n, h3, below_drewN h4 n⟩
theorem Two.more (h : Two w0 p xs q ys W) (hb : Below W.heap.size W W') : Two w0 p xs q ys W' :=
  let ⟨S, T, h1, h2, h3, h4⟩ := h
  ⟨S, T, h1.more hb, h2.more hb, h3, h4.trans (hb.mono h4.size)⟩
theorem Two.fits (h : Two w0 p xs q ys W) : xs.length ≤ 256 := let ⟨_, _, h1, _⟩ := h; h1.len
theorem Two.nodup (h : Two w0 p xs q ys W) : xs.Nodup := let ⟨_, _, h1, _⟩ := h; h1.nodup
theorem two_new (hb : Below w0.heap.size w0 W) (h : Has w0 p 256 xs W) : Calls Try.prog 10 #[.int .i64 256] W (fun e W' => ∃ q, e = .returned (.tuple #[.pointer (some ⟨q, 0, none⟩), .int .i64 0]) ∧ Two w0 p xs q [] W') := by
  refine (new (B := w0.heap.size) 256 W hb.size (by omega) (by omega)).mono ?_
  rintro e W' ⟨q, rfl, hq, hi, hb'⟩
  obtain ⟨S, hx⟩ := h.1
  exact ⟨q, rfl, S, _, hx.more hb', hi, fun k hk e => by have := (hx.inS k hk).2; omega, hb.trans (hb'.mono hb.size)⟩
theorem two_put (s : ByteArray) (h : Two w0 p xs q ys W) : Calls Try.prog 11 #[.pointer (some ⟨p, 0, none⟩), .string s] W (TwoPut w0 p (next 256 xs s) q ys) := by
  obtain ⟨S, T, h1, h2, h3, h4⟩ := h
  have keep : ∀ {v : Value} {e : Ending} {W' : World}, ¬ (nm s = true ∧ s ∉ xs ∧ xs.length < 256) → Saw v W e W' → TwoPut w0 p (next 256 xs s) q ys e W' := by
    rintro v e W' hn ⟨rfl, m, rfl⟩
    rw [next_no hn]
    exact ⟨_, rfl, Two.drewN ⟨S, T, h1, h2, h3, h4⟩ m⟩
  cases hn : nm s with
  | false => exact (put_arg s hn).mono fun e W' hw => keep (by simp [hn]) hw
  | true =>
    by_cases hx : s ∈ xs
    · exact (put_twice s hn hx h1).mono fun e W' hw => keep (by simp [hx]) hw
    · by_cases hl : xs.length < 256
      · refine (put s hn hx hl h1).mono ?_
        rintro e W' ⟨rfl, ⟨S', hi, _, hS'⟩, ht⟩
        rw [next_yes ⟨hn, hx, hl⟩]
        refine ⟨_, rfl, S', T, hi, h2.turns ht (fun k hk hS => h3 k hS hk), fun k hk hT => ?_, h4.trans (ht.below (fun k hk => (h1.inS k hk).1) h4.size)⟩
        rcases hS' k hk with h | h
        · exact h3 k h hT
        · have := (h2.inS k hT).2; omega
      · exact (put_full s hn hx (by have := h1.len; omega) h1).mono fun e W' hw => keep (by omega) hw
theorem two_find (s : ByteArray) (b : Bool) (hb : b = true ↔ s ∈ xs) (h : Two w0 p xs q ys W) : Calls Try.prog 14 #[.pointer (some ⟨p, 0, none⟩), .string s] W (TwoFind b w0 p xs q ys) := by
  have h' := h
  obtain ⟨S, T, h1, h2, h3, h4⟩ := h
  cases b with
  | false =>
    have hs : s ∉ xs := fun e => by have := hb.2 e; cases this
    refine (find_no s hs h1).mono ?_
    rintro e W' ⟨rfl, m, rfl⟩
    exact ⟨_, rfl, h'.drewN m⟩
  | true =>
    obtain ⟨k, hk⟩ := List.getElem?_of_mem (hb.1 rfl)
    refine (find_yes s k hk h1).mono ?_
    rintro e W' ⟨rfl, m, rfl⟩
    exact ⟨_, rfl, h'.drewN m⟩
theorem two_sorted (n : Nat) (l : List ByteArray) (hl : srt xs = l) (hn : l.length = n) (h : Two w0 p xs q ys W) : Calls Try.prog 17 #[.pointer (some ⟨p, 0, none⟩)] W (TwoAll n l w0 p xs q ys W) := by
  have h' := h
  obtain ⟨S, T, h1, h2, h3, h4⟩ := h
  refine (sorted h1).mono ?_
  rintro e W' ⟨b, cap, rfl, ho, hb⟩
  subst hl
  rw [hn] at ho ⊢
  obtain ⟨A, c, e1, _, hr⟩ := Reads.own ho
  cases e1
  exact ⟨b, cap, rfl, hr, h'.more hb, hb⟩
end
end Go.Proofs.Ytfendnccnhmllaa
