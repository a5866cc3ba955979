/- Time in steps: what comes; two wheels and a row of the call's own. -/
import Derived.Test.YtngoclkhhfcjjaaTw
namespace Go.Proofs.Ytngoclkhhfcjjaa
open Go.RowKit

theorem due_none {l : List Ky} {t : Int} (h : ∀ d ∈ l, t < d.1) : due l t = [] ∧ stay l t = l :=
  ⟨List.filter_eq_nil_iff.2 fun d hd => by have := h d hd; simp; omega, List.filter_eq_self.2 fun d hd => by simpa using h d hd⟩
theorem due_steps {t t' : Int} (htt : t ≤ t') : ∀ {m : List Ky}, Srt m → due m t ++ due (stay m t) t' = due m t' ∧ stay (stay m t) t' = stay m t'
  | [], _ => ⟨rfl, rfl⟩
  | x :: l, h => by
    have hx := List.pairwise_cons.1 h
    obtain ⟨h1, h2⟩ := due_steps htt hx.2
    by_cases hxt : x.1 ≤ t
    · have e1 : due (x :: l) t = x :: due l t := by unfold due; rw [List.filter_cons, if_pos (by simpa using hxt)]
      have e2 : stay (x :: l) t = stay l t := by unfold stay; rw [List.filter_cons, if_neg (by simpa using hxt)]
      have e3 : due (x :: l) t' = x :: due l t' := by unfold due; rw [List.filter_cons, if_pos (by simp; omega)]
      have e4 : stay (x :: l) t' = stay l t' := by unfold stay; rw [List.filter_cons, if_neg (by simp; omega)]
      rw [e1, e2, e3, e4, List.cons_append, h1, h2]
      exact ⟨rfl, rfl⟩
    · have hall : ∀ d ∈ x :: l, t < d.1 := fun d hd => by
        rcases List.mem_cons.1 hd with rfl | hd
        · omega
        · have := (List.pairwise_cons.1 (srt_times h)).1 d hd
          omega
      obtain ⟨e1, e2⟩ := due_none hall
      rw [e1, e2, List.nil_append]
      exact ⟨rfl, rfl⟩
/-- Two wheels and a row that is neither's. -/
structure Trio (w0 : World) (Sa : Nat → Prop) (pa : Nat) (na : Int) (ma : List Ky) (Sb : Nat → Prop) (pb : Nat) (nb : Int) (mb : List Ky) (A : Option Addr) (n c : Nat) (xs : List Ky) (W : World) : Prop where
  two : Two w0 Sa pa na ma Sb pb nb mb W
  own : W.ownsRow w0.heap.size 30 2 (.slice A n c) n (flatQ xs)
  far : ∀ q, (Value.slice A n c).ownBlock = some q → ¬ Sa q ∧ ¬ Sb q
section
variable {w0 W W' : World} {Sa Sb : Nat → Prop} {pa pb : Nat} {na nb : Int} {ma mb ma' : List Ky} {A : Option Addr} {n c : Nat} {xs : List Ky}
theorem Trio.len (h : Trio w0 Sa pa na ma Sb pb nb mb A n c xs W) : xs.length = n := by
  have := h.own.1
  rw [length_flatQ] at this
  omega
theorem Trio.keys (h : Trio w0 Sa pa na ma Sb pb nb mb A n c xs W) : Keys W A c xs := by
  have hl := h.len
  obtain ⟨hnc, hr⟩ := own_row h.own
  rcases hr with ⟨rfl, rfl, rfl⟩ | ⟨g, rfl, _, hr⟩
  · exact keys_none _ _ _
  · exact hr.keys
theorem Trio.advA {t : Int} (h : Trio w0 Sa pa na ma Sb pb nb mb A n c xs W) (ha : Has w0 Sa pa 1024 t ma' W') (ht : Turns Sa W W') : Trio w0 Sa pa t ma' Sb pb nb mb A n c xs W' :=
  ⟨h.two.next ha (fun _ hk => .inl hk) ht, own_same h.own (fun k hk => ht.block k (own_lt h.own hk).2 (h.far k hk).1), h.far⟩
theorem Has.grown {S : Nat → Prop} {p room : Nat} {now : Int} {m : List Ky} {b : Option Nat} (h : Has w0 S p room now m W) (hg : W.grownBy W' b) (hb : ∀ k, b = some k → w0.heap.size ≤ k ∧ ¬ S k) : Has w0 S p room now m W' :=
  ⟨h.whl.same hg.size (fun k hk => hg.block k (h.whl.inS k hk).2 (fun e => (hb k e.symm).2 hk)), Below.grown h.below hg h.below.size (fun k hk => (hb k hk).1)⟩
/-- The row, longer. -/
theorem Trio.append {A1 : Option Addr} {c1 : Nat} {l : List Ky} (h : Trio w0 Sa pa na ma Sb pb nb mb A n c xs W) (q : Nat) (hq : l.length = q) (hk : Keys W A1 c1 l) (hb : n + q ≤ 2000) :
    ∃ A2 c2 W', (Builtin.append_ #[28, 28] 28 #[.slice A n c, .slice A1 q c1]).run Try.prog W = .ok (.slice A2 (n + q) c2) W' ∧ Trio w0 Sa pa na ma Sb pb nb mb A2 (n + q) c2 (xs ++ l) W' := by
  obtain ⟨A2, c2, W', hrun, ho, hg, hat⟩ := run_append_keys (w := W) 28 (base := w0.heap.size) (c := c1) h.own hq hk hb h.two.a.below.size
  have hA : ∀ k, (Value.slice A n c).ownBlock = some k → w0.heap.size ≤ k ∧ ¬ Sa k := fun k hk => ⟨(own_lt h.own hk).1, (h.far k hk).1⟩
  have hB : ∀ k, (Value.slice A n c).ownBlock = some k → w0.heap.size ≤ k ∧ ¬ Sb k := fun k hk => ⟨(own_lt h.own hk).1, (h.far k hk).2⟩
  refine ⟨A2, c2, W', hrun, ⟨h.two.a.grown hg hA, h.two.b.grown hg hB, h.two.apart⟩, ho, fun k hk => ?_⟩
  rcases hat with e | e
  · exact h.far k (e ▸ hk)
  · have hkW : k = W.heap.size := by rw [hk] at e; exact Option.some.inj e
    subst hkW
    exact ⟨fun hs => by have := (h.two.a.inS _ hs).2; omega, fun hs => by have := (h.two.b.inS _ hs).2; omega⟩
end
end Go.Proofs.Ytngoclkhhfcjjaa
