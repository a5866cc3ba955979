/- slices.Backward over a row of slots: which rounds a loop over it has, one behind the other. -/
import Derived.Test.YtojnkkkgkmgagaaBs
import Derived.RangeFuncNested
import Derived.RangeFuncLeaves
import Derived.Shelf.Abstract
import Derived.WalkKit
import Derived.OwnWalkIn
import Derived.TacticsInMore
import Derived.LoopNIn
import Derived.LoopIn
namespace Go.Proofs.Ytojnkkkgkmgagaa
open Go.RowKit Go.Shelf
attribute [local go_sem] Oper.semAt_some

/-- What a round leaves: the blocks below n₀, and block Bs. -/
def KeepB (n₀ Bs : Nat) (A B : World) : Prop := Turns (fun k => n₀ ≤ k ∧ k ≠ Bs) A B
theorem KeepB.refl {n₀ Bs : Nat} (A : World) : KeepB n₀ Bs A A := Turns.refl _ _
theorem KeepB.trans {n₀ Bs : Nat} {A B C : World} (h : KeepB n₀ Bs A B) (k : KeepB n₀ Bs B C) : KeepB n₀ Bs A C := Turns.trans h k (fun _ _ h => h)
theorem KeepB.put {n₀ Bs : Nat} {w : World} (h0 : n₀ ≤ w.heap.size) (hB : Bs < w.heap.size) (W : World) (l : Nat) (o o' : Obj) (hl : w.heap.size ≤ l) (_ : W.heap[l]? = some o) (_ : o.isCells = false) (_ : o.isWalk = false) : KeepB n₀ Bs W (W.putObj l o') :=
  let g := grownBy_putObj' W l o'
  ⟨g.os, g.tape, g.output, g.size, fun k hk hS => g.block k hk (fun e => hS (by cases e; exact ⟨by omega, by omega⟩))⟩
theorem KeepB.alloc {n₀ Bs : Nat} {A B : World} (h : KeepB n₀ Bs A B) (o : Obj) : KeepB n₀ Bs A (B.alloc o) :=
  ⟨h.os, h.tape, h.output, Nat.le_trans h.size (by simp), fun k hk hS => (Below.heap_alloc B o k (Nat.lt_of_lt_of_le hk h.size)).trans (h.block k hk hS)⟩
theorem KeepB.setCell {n₀ Bs : Nat} {A B : World} (h : KeepB n₀ Bs A B) {p : Addr} (h0 : n₀ ≤ p.block) (hB : p.block ≠ Bs) (v : Value) : KeepB n₀ Bs A (B.setCell p v) := Turns.setCell h (.inr ⟨h0, hB⟩) v
theorem KeepB.below {n₀ Bs : Nat} {A B : World} (h : KeepB n₀ Bs A B) (h0 : n₀ ≤ A.heap.size) : Below n₀ A B := Turns.below h (fun _ h => h.1) h0

/-- What comes: a place, a slot there. -/
abbrev It := Int × { k : Ky // Rt k }
def encI (x : It) : Array Value := #[.int .i64 x.1, aggQ x.2.1]
def slots (l : List It) : List Ky := l.map fun x => x.2.1
theorem slots_snoc (l : List It) (x : It) : slots (l ++ [x]) = slots l ++ [x.2.1] := by simp [slots]
theorem slots_rt {l : List It} : ∀ k ∈ slots l, Rt k := fun k hk => by
  obtain ⟨x, _, rfl⟩ := List.mem_map.1 hk
  exact x.2.2

set_option maxRecDepth 100000 in
set_option maxHeartbeats 2000000 in
theorem back_in (F : Fence) (n : Nat) (h34 : F.fn 34) (hro : F.round = none) (hn : 1 ≤ n) (l Bs n₀ c : Nat) (a : Option Addr) (ks : List Ky) (hr : ∀ k ∈ ks, Rt k) (hl : ks.length ≤ 2000) (J Jx : List It → World → Prop)
    (hY : ∀ pre x W, J pre W → pre.length < ks.length → YieldAt F (n - 1) Try.prog l (encI x) W fun e W' =>
      (e = .returned (.bool true) ∧ J (pre ++ [x]) W' ∧ KeepB n₀ Bs W W') ∨ (e = .returned (.bool false) ∧ Jx (pre ++ [x]) W'))
    (W : World) (hc : ∀ X, KeepB n₀ Bs W X → X.cell? ⟨Bs, 0, none⟩ = some (.slice a ks.length c)) (hk : ∀ X, KeepB n₀ Bs W X → Keys X a c ks) (h0 : J [] W) :
    CallsIn F n Try.prog 34 #[.func (.yield l) #[] #[], .pointer (some ⟨Bs, 0, none⟩)] W fun e W' => (∃ v, e = .returned v) ∧
      ((∃ ys, slots ys = ks.reverse ∧ J ys W') ∨ (∃ pre, True ∧ Jx pre W')) := by
  have HC := Lib.hid hc
  have HK := Lib.hid hk
  have HR := Lib.hid hr
  have c0 := hc W (KeepB.refl W)
  clear hc hk hr
  refine callsIn_of_wp Try.func34 rfl h34 ?_ hro
  simp only [Try.ntmps34, List.size_toArray, List.length_cons, List.length_nil, Nat.reduceAdd, Nat.reduceSub, Array.replicate_succ, Array.replicate_zero, List.push_toArray, List.append_toArray, List.nil_append, List.cons_append]
  gi_wp2
  gi_loopw [3] (fun i wr => ∃ (k : Nat) (pre : List It), k ≤ ks.length ∧ (k = 0 ∧ i = .int .i64 (-1) ∨ 0 < k ∧ i = .int .i64 ((k - 1 : Nat) : Int)) ∧ slots pre = (ks.drop k).reverse ∧ J pre wr ∧ KeepB n₀ Bs W wr)
    (fun i _ => (intOf i + 1).toNat)
  case atStart =>
    refine ⟨ks.length, [], Nat.le_refl _, ?_, by simp [slots], h0, KeepB.refl W⟩
    by_cases h : ks.length = 0
    · exact .inl ⟨h, by simp [h]⟩
    · refine .inr ⟨by omega, ?_⟩
      go_num
  case round =>
    obtain ⟨k, pre, hk, hi, hp, hJ, hkb⟩ := hrel
    have HB := Lib.hid hkb
    clear hkb
    rcases hi with ⟨rfl, rfl⟩ | ⟨h0k, rfl⟩
    · have HF : Hid (slots pre = ks.reverse) := by rw [hp]; simp [Hid]
      gi_wp2
      go_end0
      exact ⟨⟨_, rfl⟩, .inl ⟨pre, HF.out, hJ⟩⟩
    · obtain ⟨q, rfl⟩ : ∃ q, k = q + 1 := ⟨k - 1, by omega⟩
      simp only [Nat.add_sub_cancel]
      have hx : ks[q]? = some ks[q] := List.getElem?_eq_getElem (by omega)
      obtain ⟨g, off, rfl, hg, x0, x1, x2, x3⟩ := (HK.out wr HB.out).cells hx
      have c1 := HC.out wr HB.out
      have HX := Lib.hid hx
      have HRT := Lib.hid (HR.out ks[q] (List.getElem_mem _))
      clear hx
      have hlen : pre.length < ks.length := by
        have := congrArg List.length hp
        simp [slots] at this
        omega
      have HP := Lib.hid hp
      clear hp
      generalize hsq : ks[q] = s at x0 x1 x2 x3 HX HRT
      clear hsq
      obtain ⟨fn, tmps, assign, body, hy, hR⟩ := hY pre ((q : Int), ⟨s, HRT.out⟩) wr hJ hlen
      simp only [encI, aggQ] at hy
      have i1 : (0 : Int) ≤ (q : Int) := by omega
      have HN : Hid (∀ x : It, x.2.1 = s → slots (pre ++ [x]) = (ks.drop q).reverse) := fun x hx => by
        rw [slots_snoc, HP.out, hx, List.drop_eq_getElem_cons (show q < ks.length by omega)]
        have := (List.getElem?_eq_some_iff.1 HX.out).2
        rw [this]
        simp
      gi_wp2
      refine hR.mono ?_
      rintro e W3 (⟨rfl, hJ3, hk3⟩ | ⟨rfl, hJx3⟩)
      · have HB3 := Lib.hid (HB.out.trans hk3)
        clear hk3
        gi_wp2
        go_roundw
        case rel =>
          refine ⟨q, _, by omega, ?_, HN.out _ rfl, hJ3, HB3.out⟩
          by_cases h : q = 0
          · subst h; exact .inl ⟨rfl, by simp⟩
          · exact .inr ⟨by omega, by go_num⟩
        case measure => simp [intOf]
      · gi_wp2
        refine bodyPost_ret (results_none rfl _ _ _) rfl ?_
        exact ⟨⟨_, rfl⟩, .inr ⟨_, trivial, hJx3⟩⟩

set_option maxHeartbeats 1000000 in
theorem backward (F : Fence) (n : Nat) (h29 : F.fn 29) (hro : F.round = none) (a : Option Addr) (len cap : Nat) (w : World) :
    CallsIn F n Try.prog 29 #[.slice a len cap] w fun e w' => e = .returned (.func (.func 34) #[] #[.pointer (some ⟨w.heap.size, 0, none⟩)]) ∧ w' = w.alloc (.cells #[.slice a len cap] 29) := by
  refine callsIn_of_wp Try.func29 rfl h29 ?_ hro
  simp only [Try.ntmps29, List.size_toArray, List.length_cons, List.length_nil, Nat.reduceAdd, Nat.reduceSub, Array.replicate_succ, Array.replicate_zero, List.push_toArray, List.append_toArray, List.nil_append, List.cons_append]
  gi_wp2
  go_ret
  exact ⟨rfl, rfl⟩
end Go.Proofs.Ytojnkkkgkmgagaa
