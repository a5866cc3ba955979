/- Bytes appended to a row that is the call's own, or a literal that is full. -/
import Derived.Test.YteolepmopajamaaC3
import Derived.ArgAppend
namespace Go.Proofs.Yteolepmopajamaa
open Go.RowKit Lx Kx

theorem own_mono {w : World} {B B' : Nat} {e : TypeId} {size : Nat} {v : Value} {n : Nat} {cs : List Value} (h : w.ownsRow B' e size v n cs) (hB : B ≤ B') : w.ownsRow B e size v n cs := by
  refine ⟨h.1, ?_⟩
  rcases h.2 with hn | ⟨g, cap, cur, hv, hb, rest⟩
  · exact .inl hn
  · exact .inr ⟨g, cap, cur, hv, Nat.le_trans hB hb, rest⟩
def OutRel (V : World) (n : Nat) (zs : List UInt8) (A : Option Addr) (c : Nat) (W : World) : Prop :=
  JoinRel V n zs A c W ∨ ((∃ g, A = some ⟨g, 0, none⟩) ∧ c = n ∧ zs.length = n ∧ Bytes W A c zs ∧ Below V.heap.size V W ∧ 0 < n)
section
variable {V W W' : World} {n m c c' : Nat} {zs ys : List UInt8} {A sa : Option Addr}
theorem OutRel.below (h : OutRel V n zs A c W) : Below V.heap.size V W := by
  rcases h with h | h
  · exact h.2
  · exact h.2.2.2.2.1
theorem OutRel.on (h : OutRel V n zs A c W) (hb : Below W.heap.size W W') : OutRel V n zs A c W' := by
  rcases h with h | ⟨h1, h2, h3, h4, h5, h6⟩
  · exact .inl ⟨own_same h.1 (fun k hk => hb.block k (own_lt h.1 hk).2), h.2.trans (hb.mono h.2.size)⟩
  · exact .inr ⟨h1, h2, h3, h4.below (Nat.le_refl _) hb, h5.trans (hb.mono h5.size), h6⟩
theorem OutRel.bytes (h : OutRel V n zs A c W) : zs.length = n ∧ Bytes W A c zs := by
  rcases h with h | ⟨h1, h2, h3, h4, h5, h6⟩
  · obtain ⟨e, hb⟩ := Bytes.own h.1
    exact ⟨e.symm, hb⟩
  · exact ⟨h3, h4⟩
theorem run_append_out (ty : TypeId) (h : OutRel V n zs A c W) (hm : ys.length = m) (hm0 : 0 < m) (hr : Bytes W sa c' ys) (hb : n + m ≤ 1000000) :
    ∃ A' cap' w', (Builtin.append_ #[22, 22] ty #[.slice A n c, .slice sa m c']).run Try.prog W = .ok (.slice A' (n + m) cap') w' ∧ JoinRel V (n + m) (zs ++ ys) A' cap' w' := by
  rcases h with h | ⟨⟨g, rfl⟩, rfl, h3, h4, h5, h6⟩
  · obtain ⟨A', cap', w', hrun, hl⟩ := run_append_bytes ty h.1 hm hr hb h.2.size
    exact ⟨A', cap', w', hrun, h.longer hl⟩
  · obtain ⟨i, z, hi, hz, hs, hbt, hzs⟩ := byteInfo
    obtain ⟨b, off, rfl, _, hc⟩ := hr.at_ (by have := hr.le; omega)
    obtain ⟨b0, off0, e0, _, hc0⟩ := h4.at_ (by omega)
    cases e0
    obtain ⟨v', w', hrun, r1, r2⟩ := run_append_arg_grows (P := Try.prog) W 22 ty 5 i z 1 1 Try.underlying22 hi hz hs hbt hzs (by omega) ⟨g, 0, none⟩ c c (bytesV zs) (by rw [length_bytesV]; omega) (fun j u hu => by
        simp only [bytesV, List.getElem?_map] at hu
        obtain ⟨x, hx, rfl⟩ := Option.map_eq_some_iff.1 hu
        rw [Addr.add_lit]; exact hc0 j x hx) ⟨b, off, none⟩ m c' (bytesV ys) (by rw [length_bytesV]; omega) (fun j u hu => by
        simp only [bytesV, List.getElem?_map] at hu
        obtain ⟨x, hx, rfl⟩ := Option.map_eq_some_iff.1 hu
        rw [Addr.add_lit]; exact hc j x hx) (by omega) (by unfold maxLen; omega) (by omega)
    obtain ⟨A', cap', rfl, _⟩ := own_form r1
    refine ⟨A', cap', w', hrun, ?_, Below.grown h5 r2 h5.size (fun k hk => by cases hk)⟩
    rw [bytesV_append]
    exact own_mono r1 h5.size
theorem wpList_append_out {ops : Array Oper} {rest : List Oper} {o : Oper} {a : Act} {Q : Exit → Act → World → Prop} (hgd : o.guard = none) (s x : Operand)
    (hop : o.op = .call { callee := .builtin .append, args := #[s, x], argTypes := #[22, 22] }) (V : World)
    (n m c c' N : Nat) (zs ys : List UInt8) (A sa : Option Addr) (hs : a.eval s = .slice A n c) (hx : a.eval x = .slice sa m c')
    (h : OutRel V n zs A c W) (hm : ys.length = m) (hm0 : 0 < m) (hr : Bytes W sa c' ys) (hN : n + m = N) (hb : N ≤ 1000000)
    (hK : ∀ A' cap' w', JoinRel V N (zs ++ ys) A' cap' w' → wpList Try.prog ops Q rest (a.put o.dst (.slice A' N cap')) w') : wpList Try.prog ops Q (o :: rest) a W := by
  subst hN
  obtain ⟨A', cap', w', hrun, hl⟩ := run_append_out o.type h hm hm0 hr hb
  exact Lib.wpList_append_run W hgd s x 22 22 hop _ _ hs hx _ _ hrun (hK A' cap' w' hl)
end
theorem out_lit (V : World) (l : List UInt8) (hl : 0 < l.length) : OutRel V l.length l (some ⟨V.heap.size, 0, none⟩) l.length (V.alloc (litO l)) :=
  .inr ⟨⟨_, rfl⟩, rfl, rfl, bytes_lit V l, below_new _ _, hl⟩
end Go.Proofs.Yteolepmopajamaa
