/- All keys of a heap, in order, in a row of their own. -/
import Derived.Test.YtblecehmbmbjiaaSo
import Derived.Lib.SliceRun
namespace Go.Proofs.Ytblecehmbmbjiaa
open Go.RowKit

theorem wpList_append_keys {X : World} {ops : Array Oper} {rest : List Oper} {o : Oper} {a : Act} {Q : Exit → Act → World → Prop} (hgd : o.guard = none) (s x : Operand)
    (hop : o.op = .call { callee := .builtin .append, args := #[s, x], argTypes := #[28, 28] })
    (W0 : World) (A0 : Option Addr) (n m c c0 N : Nat) (xs l : List Ky) (sa : Option Addr) (hs : a.eval s = .slice A0 n c0) (hx : a.eval x = .slice sa m c)
    (hG : GrowsQ W0 A0 n c0 xs X) (hm : l.length = m) (hr : Keys X sa c l) (hN : n + m = N) (hb : N ≤ 2000)
    (h : ∀ A cap w', PostQ W0 X A0 A N cap (xs ++ l) w' → wpList Try.prog ops Q rest (a.put o.dst (.slice A N cap)) w') : wpList Try.prog ops Q (o :: rest) a X := by
  subst hN
  obtain ⟨A, cap, w', hrun, hl⟩ := post_append o.type (c := c) hG hm hr hb
  exact Lib.wpList_append_run X hgd s x 28 28 hop _ _ hs hx _ _ hrun (h A cap w' hl)
/-- A row of keys of the call's own. -/
def Rows1 (n : Nat) (l : List Ky) (w : World) (e : Ending) (w' : World) : Prop := ∃ A c, e = .returned (.slice A n c) ∧ GrowsQ w A n c l w'
theorem GrowsQ.row {W0 W : World} {A : Option Addr} {n c : Nat} {l : List Ky} (h : GrowsQ W0 A n c l W) : (A = none ∧ n = 0 ∧ l = []) ∨ ∃ g, A = some ⟨g, 0, none⟩ ∧ W0.heap.size ≤ g ∧ KRow W g c l := by
  have hlen := h.2.1
  rw [length_flatQ] at hlen
  rcases h.2.2 with ⟨e1, e2⟩ | ⟨g, cap, cur, e1, hb, hg, hnc, _, hsz, ht⟩
  · cases e1
    exact .inl ⟨rfl, e2, List.eq_nil_of_length_eq_zero (by omega)⟩
  · cases e1
    refine .inr ⟨g, rfl, hb, cur, hg, hsz, by omega, fun i t hi j v hj => ?_⟩
    have := flatQ_at j v hi hj
    rw [← ht, List.getElem?_take] at this
    split at this
    · rw [← Array.getElem?_toList]; exact this
    · cases this

set_option maxHeartbeats 1000000 in
theorem clone {l : List Ky} {b off c : Nat} {w : World} (hk : Keys w (some ⟨b, off, none⟩) c l) (hl : l.length ≤ 1024) : Calls Try.prog 28 #[.slice (some ⟨b, off, none⟩) l.length c] w (Rows1 l.length l w) := by
  have HK := Lib.hid (hk.below (Nat.le_refl _) (below_new w (.cells #[] 31)))
  have HG := Lib.hid (grows_n0 w)
  have q28 : (binOp .eql 28 (.slice (some ⟨b, off, none⟩) l.length c) (.slice none 0 0)).run Try.prog w = .ok (.bool false) w := Lib.run_eql_slice_nil w 28 31 (some ⟨b, off, none⟩) l.length c 0 0 Try.underlying28
  clear hk
  go_enter Try.func28, Try.ntmps28
  go_wp2_with (
    at_builtin
    refine wpList_append_keys rfl (.tmp 5) (.tmp 6) rfl w (some ⟨w.heap.size, 0, none⟩) 0 l.length c 0 l.length [] l (some ⟨b, off, none⟩) rfl rfl HG.out rfl HK.out (by omega) (by omega) ?_
    intro A2 c2 w2 hp2
    have HP := Lib.hid hp2.grows
    clear hp2)
  go_ret
  exact ⟨A2, c2, rfl, HP.out⟩
theorem Pl.keys {w : World} {p room t : Nat} {l : List Ky} (h : Pl w p room t l) : Keys w (some ⟨p, 2, none⟩) 1024 l :=
  ⟨h.len, fun _ => ⟨p, 2, rfl, h.lt, fun i k hi j v hj => by
    obtain ⟨cs, h1, h2, h3, h4, h5, h6⟩ := h
    rw [h1.cell]; exact h6 i k hi j v hj⟩⟩
/-- All keys in order, in a row of their own. -/
def AllOf (m : List Ky) (n : Nat) (w : World) (e : Ending) (w' : World) : Prop :=
  ∃ A c, e = .returned (.slice A n c) ∧ Below w.heap.size w w' ∧ n ≤ c ∧ (0 < n → ∃ g, A = some ⟨g, 0, none⟩ ∧ w.heap.size ≤ g ∧ KRow w' g c m)

set_option maxRecDepth 100000 in
set_option maxHeartbeats 2000000 in
theorem sorted {w : World} {p room : Nat} {m : List Ky} (h : Heap w p room m) : Calls Try.prog 21 #[.pointer (some ⟨p, 0, none⟩)] w (AllOf m m.length w) := by
  obtain ⟨l, h1, h2, h3⟩ := h.body
  have HS := Lib.hid h.good.srt
  have HPM := Lib.hid h1
  have HPL := Lib.hid h2
  have hl := h2.len
  have hpl := h2.lt
  have ct := h2.taken_
  rw [← h1.length_eq]
  have i1 : (0 : Int) ≤ (l.length : Int) := by omega
  have i2 : (l.length : Int) ≤ 1024 := by omega
  have KC : Hid (∀ n, Calls Try.prog 28 #[.slice (some ⟨p, 2, none⟩) l.length 1024] (w.drewN n) (Rows1 l.length l (w.drewN n))) := fun n => clone ((HPL.out.drewN n).keys) hl
  clear h h1 h2 h3
  go_enter Try.func21, Try.ntmps21
  go_wp2
  go_region_held3 (fun w' => w'.cell? ⟨p, 1, none⟩ = some (.int .i64 (l.length : Int))) (first | go_keep | exact (hg1.1.cell (p := ⟨p, 1, none⟩) hpl).trans ct)
    ((go_at_call 28; refine (KC.out 1).mono ?_; rintro e w1 ⟨A, c, rfl, hg1⟩))
  have HB1 : Hid (Below w.heap.size w w1) := (below_drewN (Below.refl _ _) 1).trans hg1.1
  rcases hg1.row with ⟨rfl, h0, hnil⟩ | ⟨g, rfl, hge, hrow⟩
  · have HC := Lib.hid hg1.keys.le
    rw [h0] at HC ⊢
    clear hg1 ct
    go_wp2_with (fail)
    with_reducible refine (sortNone _ _ _).mono ?_
    rintro e w2 ⟨rfl, rfl⟩
    go_wp2
    go_ret
    exact ⟨none, c, by rw [h0]; rfl, HB1.out, by omega, fun h => by omega⟩
  · have HC := Lib.hid hg1.keys.le
    have hge' : w.heap.size ≤ g := hge
    have HSO := Lib.hid (sortRow (c := c) hrow HPM.out HS.out hl)
    clear hg1 hrow ct hge
    go_wp2_with (fail)
    with_reducible refine HSO.out.mono ?_
    rintro e w2 ⟨rfl, hr2, ht2⟩
    have HR2 := Lib.hid hr2
    have HB2 : Hid (Below w.heap.size w w2) := HB1.out.trans (ht2.below (fun k hk => by subst hk; exact hge') HB1.out.size)
    clear hr2 ht2
    go_wp2
    go_ret
    exact ⟨_, c, rfl, HB2.out, HC.out, fun _ => ⟨g, rfl, hge', HR2.out⟩⟩
theorem AllOf.keys {m : List Ky} {n c : Nat} {A : Option Addr} {w w' : World} (hn : m.length = n) (hc : n ≤ c) (h : 0 < n → ∃ g, A = some ⟨g, 0, none⟩ ∧ w.heap.size ≤ g ∧ KRow w' g c m) : Keys w' A c m := by
  refine ⟨by rw [hn]; exact hc, fun h0 => ?_⟩
  obtain ⟨g, rfl, _, hr⟩ := h (by omega)
  exact hr.keys.form h0
end Go.Proofs.Ytblecehmbmbjiaa
