/- The time goes on: the numbers of the jobs that are promoted, in a row of their own. -/
import Derived.Test.YtlodfipiodlgdaaAv
import Derived.Test.YtlodfipiodlgdaaIn
import Derived.Test.YtlodfipiodlgdaaWt
namespace Go.Proofs.Ytlodfipiodlgdaa
open Go.RowKit

theorem Keys.turns {w w' : World} {S : Nat → Prop} {A : Option Addr} {c : Nat} {l : List Ky} (h : Keys w A c l) (ht : Turns S w w') (hS : ∀ x, A = some x → ¬ S x.block) : Keys w' A c l := by
  refine ⟨h.le, fun h0 => ?_⟩
  obtain ⟨b, off, ha, hlt, hc⟩ := h.form h0
  refine ⟨b, off, ha, Nat.lt_of_lt_of_le hlt ht.size, fun i t hi j v hj => ?_⟩
  have hh := ht.block b hlt (hS ⟨b, off, none⟩ ha)
  have : w'.cell? ⟨b, off + i * 2 + j, none⟩ = w.cell? ⟨b, off + i * 2 + j, none⟩ := by simp only [World.cell?, hh]
  rw [this]
  exact hc i t hi j v hj
/-- The numbers of entries. -/
def nums (m : List Ky) : List Int := m.map idK
theorem nums_len (m : List Ky) : (nums m).length = m.length := List.length_map _
theorem nums_at {m : List Ky} {i : Nat} {x : Ky} (h : m[i]? = some x) : (nums m)[i]? = some (idK x) := by simp [nums, h]
theorem nums_step {m : List Ky} {k : Nat} {x : Ky} (h : m[k]? = some x) : nums (m.take k) ++ [idK x] = nums (m.take (k + 1)) := by
  rw [List.take_add_one, h]
  simp [nums]
/-- Some of the due ones' numbers were taken. -/
structure Some_ (S : Nat → Prop) (B p room : Nat) (m : List Ky) (t : Int) (w : World) (base : Nat) (A : Option Addr) (c k : Nat) (v : Value) (X : World) : Prop where
  whl : Whl S B X p room t (stay m t)
  turns : Turns S w X
  size : base ≤ X.heap.size
  own : X.ownsRow base 3 1 v k (cellsI (nums ((due m t).take k)))
  keys : Keys X A c (due m t)
  far : ∀ q, S q → q < base
  near : ∀ x, A = some x → x.block < base
  from_ : w.heap.size ≤ base
section
variable {S : Nat → Prop} {B p room : Nat} {now : Int} {w : World} {m : List Ky} {t : Int} {base : Nat} {A : Option Addr} {c k : Nat} {v v' : Value} {X X1 X2 : World} {x : Ky}
theorem Some_.step (h : Some_ S B p room m t w base A c k v X) (hx : (due m t)[k]? = some x) (hb : Below X.heap.size X X1) (hg : X1.grownBy X2 v.ownBlock) (ho : X2.ownsRow base 3 1 v' (k + 1) (cellsI (nums ((due m t).take k) ++ [idK x]))) :
    Some_ S B p room m t w base A c (k + 1) v' X2 := by
  have hv := own_from h.own
  have ht : Turns (fun q => v.ownBlock = some q) X X2 :=
    ⟨hg.os.trans hb.os, hg.tape.trans hb.tape, hg.output.trans hb.output, Nat.le_trans hb.size hg.size, fun q hq hn => by
      rw [hg.block q (Nat.lt_of_lt_of_le hq hb.size) (fun e => hn e.symm)]
      exact hb.block q hq⟩
  refine ⟨h.whl.turns ht (fun q hq e => ?_), ?_, Nat.le_trans h.size ht.size, by rw [← nums_step hx]; exact ho, h.keys.turns ht (fun y hy e => ?_), h.far, h.near, h.from_⟩
  · have h1 := h.far q hq
    have h2 := hv q e
    omega
  · refine ⟨ht.os.trans h.turns.os, ht.tape.trans h.turns.tape, ht.output.trans h.turns.output, Nat.le_trans h.turns.size ht.size, fun q hq hS => ?_⟩
    rw [ht.block q (Nat.lt_of_lt_of_le hq h.turns.size) (fun e => by
      have h1 := hv q e
      have h2 := h.from_
      omega)]
    exact h.turns.block q hq hS
  · have h1 := h.near y hy
    have h2 := hv _ e
    omega
def SomeRel (S : Nat → Prop) (B p room : Nat) (m : List Ky) (t : Int) (w : World) (base n : Nat) (A : Option Addr) (c : Nat) (i d : Value) (W : World) : Prop :=
  ∃ (k : Nat) (X : World), k ≤ n ∧ i = .int .i64 (k : Int) ∧ X = W ∧ Some_ S B p room m t w base A c k d X
/-- What comes: the numbers, in a new row; the promoter at the new time with all others. -/
def Calls_ (S : Nat → Prop) (B p room : Nat) (m : List Ky) (t : Int) (w : World) (e : Ending) (w' : World) : Prop :=
  ∃ v, e = .returned (.tuple #[v, .int .i64 0]) ∧ w'.ownsRow w.heap.size 3 1 v (due m t).length (cellsI (nums (due m t))) ∧ Whl S B w' p room t (stay m t) ∧ Turns S w w'
theorem own_base {B' : Nat} {W : World} {n : Nat} {cs : List Value} (h : W.ownsRow base 3 1 v n cs) (hB : B' ≤ base) : W.ownsRow B' 3 1 v n cs := by
  refine ⟨h.1, ?_⟩
  rcases h.2 with hn | ⟨g, cap, cur, rfl, hb, rest⟩
  · exact .inl hn
  · exact .inr ⟨g, cap, cur, rfl, by omega, rest⟩
set_option maxHeartbeats 400000 in
theorem pro_no (t : Int) (h : Whl S B w p room now m) (ht : t < now ∨ 1099511627776 < t) : Calls Try.prog 11 #[.pointer (some ⟨p, 0, none⟩), .int .i64 t] w (Says (.tuple #[.slice none 0 0, .int .i64 1]) w) := by
  have KA := Lib.hid (adv_no t h ht)
  have hp := h.lt
  clear h ht
  go_enter Try.func11, Try.ntmps11
  go_wp2_with (fail)
  with_reducible refine KA.out.mono ?_
  rintro e w' ⟨rfl, rfl⟩
  go_wp2
  go_ret2
  exact ⟨rfl, rfl⟩
set_option maxRecDepth 100000 in
set_option maxHeartbeats 2000000 in
theorem pro_yes (t : Int) (h : Whl S B w p room now m) (h1 : now ≤ t) (h2 : t ≤ 1099511627776) : Calls Try.prog 11 #[.pointer (some ⟨p, 0, none⟩), .int .i64 t] w (Calls_ S B p room m t w) := by
  have KA := Lib.hid (adv_yes t h h1 h2)
  have hp := h.lt
  have HS := Lib.hid h.inS
  have hlen : (due m t).length ≤ 1024 := by have e1 := (due_sub m t).length_le; have e2 := h.len; have e3 := h.r2; omega
  clear h h1 h2
  go_enter Try.func11, Try.ntmps11
  go_wp2_with (fail)
  with_reducible refine KA.out.mono ?_
  rintro e W ⟨A, n, c, rfl, hn, hc, hr, hw, ht⟩
  have hk : Keys W A c (due m t) := by
    rcases hr with ⟨rfl, h0⟩ | ⟨g, rfl, _, hr⟩
    · have : due m t = [] := List.eq_nil_of_length_eq_zero (by omega)
      rw [this]
      exact keys_none _ _ _
    · exact hr.keys
  have hA : ∀ x, A = some x → x.block < W.heap.size := fun x hx => by
    rcases hr with ⟨rfl, h0⟩ | ⟨g, rfl, _, hr⟩
    · cases hx
    · cases hx; exact hr.lt
  have H0 : Hid (Some_ S B p room m t w W.heap.size A c 0 (.slice none 0 0) W) := ⟨hw, ht, Nat.le_refl _, World.ownsRow_nil _ _ _ _, hk, fun q hq => Nat.lt_of_lt_of_le (HS.out q hq).2 ht.size, hA, ht.size⟩
  have HN := Lib.hid hn
  clear hr hw ht hk hA hn
  generalize W.heap.size = base at H0
  go_wp2
  go_loopw [8, 24] (fun d i W => SomeRel S B p room m t w base n A c i d W) (fun _ i _ => n - (intOf i).toNat)
  case atStart => exact ⟨0, _, by omega, rfl, rfl, H0.out⟩
  case round =>
    obtain ⟨k, X, hk, rfl, rfl, hs⟩ := hrel
    have HX := Lib.hid hs
    clear hs H0
    by_cases hlt : k < n
    · have t1 : decide ((k : Int) < (n : Int)) = true := by simp; omega
      have hx : (due m t)[k]? = some ((due m t)[k]'(by have := HN.out; omega)) := List.getElem?_eq_getElem _
      obtain ⟨b, off, rfl, hb, x0, x1⟩ := HX.out.keys.cells hx
      have HXX := Lib.hid hx
      clear hx
      generalize (due m t)[k]'(by have := HN.out; omega) = x at x0 x1 HXX
      obtain ⟨y0, y1⟩ := x
      simp only at x0 x1
      have hown := HX.out.own
      have HOW := Lib.hid hown
      clear hown
      have i1 : k < n := hlt
      have HB1 : Hid (Below X.heap.size X ((X.alloc (.cells #[.int .i64 y0, .int .i64 y1] 60)).alloc (.cells #[.int .i64 y1] 3))) := (below_new X _).trans ((below_new (X.alloc (.cells #[.int .i64 y0, .int .i64 y1] 60)) _).mono (by simp))
      have HO1 := Lib.hid (own_same HOW.out (fun q hq => HB1.out.block q (own_lt HOW.out hq).2))
      have HI1 : Hid (Ints ((X.alloc (.cells #[.int .i64 y0, .int .i64 y1] 60)).alloc (.cells #[.int .i64 y1] 3)) (some ⟨X.heap.size + 1, 0, none⟩) 1 [y1]) := by
        have := one_int (X.alloc (.cells #[.int .i64 y0, .int .i64 y1] 60)) y1
        rw [show (X.alloc (.cells #[.int .i64 y0, .int .i64 y1] 60)).heap.size = X.heap.size + 1 by simp] at this
        exact Lib.hid this
      have HZ := Lib.hid HX.out.size
      have hk4 : k + 1 ≤ 4000 := by have := HN.out; omega
      go_wp2_with (at_builtin; refine append_one _ rfl _ _ rfl base _ k (nums ((due m t).take k)) rfl HO1.out _ y1 rfl HI1.out hk4 (Nat.le_trans HZ.out HB1.out.size) ?_; intro v2 X2 ho2 hg2; have HS2 := Lib.hid (HX.out.step HXX.out HB1.out hg2 ho2); clear ho2 hg2)
      go_roundw
      case rel => exact ⟨k + 1, _, by omega, by go_num, rfl, HS2.out⟩
      case measure => simp [intOf]; omega
    · have t1 : decide ((k : Int) < (n : Int)) = false := by simp; omega
      have t1' : decide (k < n) = false := by simp; omega
      obtain rfl : k = n := by omega
      have ho := HX.out.own
      rw [HN.out, List.take_length] at ho
      have HF := Lib.hid (own_base ho HX.out.from_)
      clear ho
      go_wp2
      go_ret2
      exact ⟨_, rfl, HF.out, HX.out.whl, HX.out.turns⟩
end
end Go.Proofs.Ytlodfipiodlgdaa
