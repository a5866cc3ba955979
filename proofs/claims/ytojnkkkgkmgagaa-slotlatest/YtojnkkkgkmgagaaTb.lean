/- The table of slots in memory: a block of its room and its row; New, right, find, All, At, Depth. -/
import Derived.Test.YtojnkkkgkmgagaaFi
import Derived.Test.YtojnkkkgkmgagaaDe
import Derived.Test.YtojnkkkgkmgagaaLa
namespace Go.Proofs.Ytojnkkkgkmgagaa
open Go.RowKit

/-- A table at p, with a row v: all of it lies at B or behind. -/
structure TabV (B : Nat) (w : World) (p room : Nat) (v : Value) (m : List Ky) : Prop where
  obj : Lies w p 49 #[.int .i64 (room : Int), v]
  own : w.ownsRow B 33 4 v m.length (flatQ m)
  base : B ≤ w.heap.size
  bp : B ≤ p
  ne : v.ownBlock ≠ some p
  good : Good m
  r1 : 1 ≤ room
  r2 : room ≤ 256
  len : m.length ≤ room
/-- A table at p whose row lies at g. -/
def Tab (B : Nat) (w : World) (p room : Nat) (g : Option Nat) (m : List Ky) : Prop := ∃ v, v.ownBlock = g ∧ TabV B w p room v m
section
variable {B p room : Nat} {w w' : World} {v : Value} {m : List Ky} {g : Option Nat}
theorem own_keys {A : Option Addr} {n c : Nat} (h : w.ownsRow B 33 4 (.slice A n c) n (flatQ m)) : Keys w A c m := by
  have hlen := h.1
  rw [length_flatQ] at hlen
  have hn : n = m.length := by omega
  obtain ⟨A', c', e, hc, hat⟩ := own_form h
  cases e
  refine ⟨by omega, fun h0 => ?_⟩
  obtain ⟨g, rfl, hcell⟩ := hat (by omega)
  refine ⟨g, 0, rfl, (own_lt h rfl).2, fun i t hi j v hj => ?_⟩
  rw [Nat.zero_add]
  exact hcell _ _ (flatQ_at j v hi hj)
theorem own_same {e : TypeId} {size n : Nat} {cs : List Value} (h : w.ownsRow B e size v n cs) (hs : ∀ k, v.ownBlock = some k → w'.heap[k]? = w.heap[k]?) : w'.ownsRow B e size v n cs := by
  refine ⟨h.1, ?_⟩
  rcases h.2 with h' | ⟨g, cap, cur, rfl, hb, hg, hr⟩
  · exact .inl h'
  · exact .inr ⟨g, cap, cur, rfl, hb, (hs g rfl).trans hg, hr⟩
theorem TabV.same (h : TabV B w p room v m) (hz : w.heap.size ≤ w'.heap.size) (hs : ∀ k, k = p ∨ v.ownBlock = some k → w'.heap[k]? = w.heap[k]?) : TabV B w' p room v m :=
  ⟨(hs p (.inl rfl)).trans h.obj, own_same h.own (fun k hk => hs k (.inr hk)), Nat.le_trans h.base hz, h.bp, h.ne, h.good, h.r1, h.r2, h.len⟩
theorem TabV.lt (h : TabV B w p room v m) {k : Nat} (hk : k = p ∨ v.ownBlock = some k) : k < w.heap.size := by
  rcases hk with rfl | hk
  · exact h.obj.lt
  · exact (own_lt h.own hk).2
theorem TabV.below (h : TabV B w p room v m) (hb : Below w.heap.size w w') : TabV B w' p room v m := h.same hb.size (fun k hk => hb.block k (h.lt hk))
theorem TabV.drewN (h : TabV B w p room v m) (n : Nat) : TabV B (w.drewN n) p room v m := h.same (Nat.le_refl _) (fun _ _ => rfl)
theorem TabV.slice (h : TabV B w p room v m) : ∃ a c, v = .slice a m.length c ∧ Keys w a c m := by
  obtain ⟨a, c, rfl, _, _⟩ := own_form h.own
  exact ⟨a, c, rfl, own_keys h.own⟩
theorem TabV.turns {S : Nat → Prop} (h : TabV B w p room v m) (ht : Turns S w w') (hp : ¬ S p) (hv : ∀ k, v.ownBlock = some k → ¬ S k) : TabV B w' p room v m :=
  h.same ht.size (fun k hk => ht.block k (h.lt hk) (by rcases hk with rfl | hk; exact hp; exact hv k hk))
theorem Tab.same (h : Tab B w p room g m) (hz : w.heap.size ≤ w'.heap.size) (hs : ∀ k, k = p ∨ g = some k → w'.heap[k]? = w.heap[k]?) : Tab B w' p room g m := by
  obtain ⟨v, rfl, h⟩ := h
  exact ⟨v, rfl, h.same hz hs⟩
theorem Tab.below (h : Tab B w p room g m) (hb : Below w.heap.size w w') : Tab B w' p room g m := by
  obtain ⟨v, rfl, h⟩ := h
  exact ⟨v, rfl, h.below hb⟩
theorem Tab.turns {S : Nat → Prop} (h : Tab B w p room g m) (ht : Turns S w w') (hp : ¬ S p) (hv : ∀ k, g = some k → ¬ S k) : Tab B w' p room g m := by
  obtain ⟨v, rfl, h⟩ := h
  exact ⟨v, rfl, h.turns ht hp hv⟩
theorem Tab.lt (h : Tab B w p room g m) {k : Nat} (hk : k = p ∨ g = some k) : B ≤ k ∧ k < w.heap.size := by
  obtain ⟨v, rfl, h⟩ := h
  refine ⟨?_, h.lt hk⟩
  rcases hk with rfl | hk
  · exact h.bp
  · exact (own_lt h.own hk).1
theorem Tab.ne (h : Tab B w p room g m) : g ≠ some p := by
  obtain ⟨v, rfl, h⟩ := h
  exact h.ne
theorem Tab.good (h : Tab B w p room g m) : Good m := h.choose_spec.2.good
theorem Tab.len (h : Tab B w p room g m) : m.length ≤ room := h.choose_spec.2.len
theorem Tab.r1 (h : Tab B w p room g m) : 1 ≤ room := h.choose_spec.2.r1
theorem Tab.r2 (h : Tab B w p room g m) : room ≤ 256 := h.choose_spec.2.r2
theorem Tab.base (h : Tab B w p room g m) : B ≤ w.heap.size := h.choose_spec.2.base
end

/-- It answers v; the table at p holds m'; only its blocks have turned. -/
def Acts (v : Value) (B p room : Nat) (g : Option Nat) (m' : List Ky) (w : World) (e : Ending) (w' : World) : Prop :=
  e = .returned v ∧ ∃ g', Tab B w' p room g' m' ∧ Turns (fun k => k = p ∨ g = some k) w w' ∧ (g' = g ∨ ∃ k, g' = some k ∧ w.heap.size ≤ k)
theorem Acts.of_tells {v : Value} {B p room : Nat} {g : Option Nat} {m : List Ky} {w w' : World} {e : Ending} (ht : Tab B w p room g m) (h : Tells v w e w') : Acts v B p room g m w e w' :=
  ⟨h.1, g, ht.below h.2, Turns.of_below h.2, .inl rfl⟩

/-! New, right. -/
def News (room : Int) (w : World) (e : Ending) (w' : World) : Prop := e = .returned (.tuple #[.pointer (some ⟨w.heap.size, 0, none⟩), .int .i64 0]) ∧ w' = w.alloc (.cells #[.int .i64 room, .slice none 0 0] 49)
set_option maxHeartbeats 1000000 in
theorem new_ok (room : Int) (h1 : 1 ≤ room) (h2 : room ≤ 256) (w : World) : Calls Try.prog 10 #[.int .i64 room] w (News room w) := by
  have t1 : decide (room < 1) = false := by simp; omega
  have t2 : decide (256 < room) = false := by simp; omega
  go_enter Try.func10, Try.ntmps10
  go_wp2
  go_ret2
  exact ⟨rfl, rfl⟩
set_option maxHeartbeats 1000000 in
theorem new_no (room : Int) (h : room < 1 ∨ 256 < room) (w : World) : Calls Try.prog 10 #[.int .i64 room] w (Says (.tuple #[.pointer none, .int .i64 1]) w) := by
  by_cases h1 : room < 1
  · have t1 : decide (room < 1) = true := by simp; omega
    clear h
    go_enter Try.func10, Try.ntmps10
    go_wp2
    go_ret2
    exact ⟨rfl, rfl⟩
  · have t1 : decide (room < 1) = false := by simp; omega
    have t2 : decide (256 < room) = true := by simp; omega
    clear h h1
    go_enter Try.func10, Try.ntmps10
    go_wp2
    go_ret2
    exact ⟨rfl, rfl⟩
theorem Tab.new {B : Nat} {w : World} {room : Nat} (hB : B ≤ w.heap.size) (h1 : 1 ≤ room) (h2 : room ≤ 256) : Tab B (w.alloc (.cells #[.int .i64 (room : Int), .slice none 0 0] 49)) w.heap.size room none [] :=
  ⟨.slice none 0 0, rfl, Lies.made _ _ _, ⟨rfl, .inl ⟨rfl, rfl⟩⟩, by simp; omega, hB, by simp [Value.ownBlock], Good.nil, h1, h2, by simp⟩

/-- A length and two times that a slot may have. -/
def Rgt (n fr en : Int) : Prop := 1 ≤ n ∧ n ≤ 1048576 ∧ 0 ≤ fr ∧ fr ≤ en ∧ en ≤ 1099511627776
def rgtB (n fr en : Int) : Bool := decide (1 ≤ n) && decide (n ≤ 1048576) && decide (0 ≤ fr) && decide (fr ≤ en) && decide (en ≤ 1099511627776)
theorem rgt_iff {n fr en : Int} : rgtB n fr en = true ↔ Rgt n fr en := by simp [rgtB, Rgt, and_assoc]
set_option maxHeartbeats 2000000 in
theorem right_ (n fr en : Int) (w : World) : Calls Try.prog 21 #[.int .i64 n, .int .i64 fr, .int .i64 en] w (Says (.bool (rgtB n fr en)) w) := by
  unfold rgtB
  generalize hb1 : decide (1 ≤ n) = b1
  generalize hb2 : decide (n ≤ 1048576) = b2
  generalize hb3 : decide (0 ≤ fr) = b3
  generalize hb4 : decide (fr ≤ en) = b4
  generalize hb5 : decide (en ≤ 1099511627776) = b5
  cases b1 <;> cases b2 <;> cases b3 <;> cases b4 <;> cases b5 <;>
  (go_enter Try.func21, Try.ntmps21
   go_wp2
   go_ret
   exact ⟨rfl, rfl⟩)
end Go.Proofs.Ytojnkkkgkmgagaa
