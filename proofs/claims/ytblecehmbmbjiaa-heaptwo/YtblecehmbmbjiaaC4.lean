/- The walk of the statement on keys that are pushed in whichever order. -/
import Derived.Test.YtblecehmbmbjiaaPa
namespace Go.Proofs.Ytblecehmbmbjiaa
open Go.RowKit

/-- Two heaps apart, both of the call's own. -/
structure Two (w0 : World) (p q room : Nat) (m n : List Ky) (W : World) : Prop where
  one_ : Has w0 p room m W
  two_ : Has w0 q room n W
  ne : p ≠ q
section
variable {w0 W W' : World} {p q room : Nat} {m n m' n' : List Ky}
theorem Two.more (h : Two w0 p q room m n W) (hb : Below W.heap.size W W') : Two w0 p q room m n W' := ⟨h.one_.more hb, h.two_.more hb, h.ne⟩
theorem Two.drewN (h : Two w0 p q room m n W) (k : Nat) : Two w0 p q room m n (W.drewN k) := ⟨h.one_.drewN k, h.two_.drewN k, h.ne⟩
theorem Two.first {v : Value} {e : Ending} (h : Two w0 p q room m n W) (ht : Then v w0 p room m' W e W') : Two w0 p q room m' n W' := ⟨ht.2.1, h.two_.turns h.one_.from_ h.ne.symm ht.2.2, h.ne⟩
theorem Two.second {v : Value} {e : Ending} (h : Two w0 p q room m n W) (ht : Then v w0 q room n' W e W') : Two w0 p q room m n' W' := ⟨h.one_.turns h.two_.from_ h.ne ht.2.2, ht.2.1, h.ne⟩
theorem Two.eq (h : Two w0 p q room m n W) (e : m = m') (f : n = n') : Two w0 p q room m' n' W := by subst e f; exact h
end
/-- The keys from the t-th on, then those ahead of it. -/
def rot (t : Nat) (l : List Ky) : List Ky := l.drop t ++ l.take t
theorem rot_perm (t : Nat) (l : List Ky) : (rot t l).Perm l := by
  unfold rot
  refine List.perm_append_comm.trans ?_
  rw [List.take_append_drop]
theorem rot_at (t : Nat) (l : List Ky) (j : Nat) (hj : j < l.length) (ht : t < l.length) : (rot t l)[j]? = l[(j + t) % l.length]? := by
  unfold rot
  by_cases h : j < l.length - t
  · rw [List.getElem?_append_left (by simpa using h), List.getElem?_drop, Nat.mod_eq_of_lt (by omega), Nat.add_comm]
  · rw [List.getElem?_append_right (by simp; omega), List.getElem?_take, List.length_drop, if_pos (by omega)]
    congr 1
    rw [show j + t = (j - (l.length - t)) + l.length by omega, Nat.add_mod_right, Nat.mod_eq_of_lt (by omega)]
theorem fresh_at {L : List Ky} (h : (L.map idK).Nodup) {k : Nat} {x : Ky} (hx : L[k]? = some x) : idK x ∉ (L.take k).map idK := fun hm => by
  obtain ⟨y, hy, e⟩ := List.mem_map.1 hm
  obtain ⟨i, hi⟩ := List.getElem?_of_mem hy
  rw [List.getElem?_take] at hi
  split at hi
  · rename_i hik
    have h1 : (L.map idK)[i]? = some (idK x) := by rw [List.getElem?_map, hi, ← e]; rfl
    have h2 : (L.map idK)[k]? = some (idK x) := by rw [List.getElem?_map, hx]; rfl
    obtain ⟨l1, e1⟩ := List.getElem?_eq_some_iff.1 h1
    obtain ⟨l2, e2⟩ := List.getElem?_eq_some_iff.1 h2
    exact (List.pairwise_iff_getElem.1 h i k l1 l2 hik) (e1.trans e2.symm)
  · cases hi
theorem fresh_perm {L m : List Ky} {k : Nat} {x : Ky} (h : (L.map idK).Nodup) (hx : L[k]? = some x) (hp : m.Perm (L.take k)) : idK x ∉ m.map idK := fun hm => fresh_at h hx ((hp.map idK).mem_iff.1 hm)
theorem perm_step {L m : List Ky} {k : Nat} {x : Ky} (hx : L[k]? = some x) (hp : m.Perm (L.take k)) : (putK m x).Perm (L.take (k + 1)) := by
  rw [List.take_add_one, hx]
  exact (put_perm m x).trans ((hp.cons x).trans (List.perm_append_singleton _ _).symm)
theorem nodup_upto {l : List Ky} (h : ∀ (i j : Nat) (x y : Ky), i < j → l[i]? = some x → l[j]? = some y → idK x ≠ idK y) : (l.map idK).Nodup := by
  refine List.pairwise_iff_getElem.2 (fun i j hi hj hij => ?_)
  simp only [List.length_map] at hi hj
  rw [List.getElem_map, List.getElem_map]
  exact h i j _ _ hij (List.getElem?_eq_getElem hi) (List.getElem?_eq_getElem hj)
theorem byte_of {a : Int} (h : (Lit.int .u8 a).wf = true) : 0 ≤ a ∧ a ≤ 255 := by
  have h' : IntKind.u8.min ≤ a ∧ a ≤ IntKind.u8.max := by simpa [Lit.wf] using h
  have e1 : IntKind.u8.min = 0 := rfl
  have e2 : IntKind.u8.max = 255 := rfl
  omega

namespace Orders
def OuterRel (l : List Ky) (w : World) (i : Value) (W : World) : Prop := ∃ k d : Nat, k ≤ l.length ∧ i = .int .i64 (k : Int) ∧ W = w.drewN d ∧ ∀ a b x y, a < b → b < k → l[a]? = some x → l[b]? = some y → idK x ≠ idK y
def InnerRel (l : List Ky) (k : Nat) (z : Int) (w : World) (i : Value) (W : World) : Prop := ∃ j d : Nat, j ≤ k ∧ i = .int .i64 (j : Int) ∧ W = w.drewN d ∧ ∀ a x, a < j → l[a]? = some x → idK x ≠ z
def PushRel (l L : List Ky) (w : World) (p q : Nat) (i : Value) (W : World) : Prop := ∃ (k : Nat) (m n : List Ky), k ≤ l.length ∧ i = .int .i64 (k : Int) ∧ m.Perm (l.take k) ∧ n.Perm (L.take k) ∧ Two w p q 1024 m n W
def PopRel (m : List Ky) (w : World) (p q : Nat) (i : Value) (W : World) : Prop := ∃ k : Nat, k ≤ m.length ∧ i = .int .i64 (k : Int) ∧ Two w p q 1024 (m.drop k) (m.drop k) W

set_option maxRecDepth 100000 in
set_option maxHeartbeats 8000000 in
theorem core (l : List Ky) (a : Option Addr) (cap t : Nat) (w : World) (hm : l.length ≤ maxLen) (hr : Keys w a cap l) (ht : t ≤ 255) : Calls Try.prog 7 #[.slice a l.length cap, .int .u8 (t : Int)] w (Woke w) := by
  have HR := Lib.hid hr
  unfold maxLen at hm
  clear hr
  have KN := Lib.hid (fun W (hb : Below w.heap.size w W) => has_new (w0 := w) 1024 hb (by omega) (by omega))
  go_enter Try.func7, Try.ntmps7
  go_wp2_with (fail)
  refine (awake _).mono ?_
  rintro e w1 ⟨rfl, hb1⟩
  have B1 := Lib.hid hb1
  clear hb1
  by_cases h0 : l.length = 0
  · have t0 : ((l.length : Int) == 0) = true := by rw [beq_iff_eq]; omega
    go_wp2_with (fail)
    refine (awake _).mono ?_
    rintro e w2 ⟨rfl, hb2⟩
    go_wp2
    go_ret
    exact ⟨rfl, B1.out.trans (hb2.mono B1.out.size)⟩
  · have t0 : ((l.length : Int) == 0) = false := by rw [beq_eq_false_iff_ne]; omega
    by_cases h3 : 200 < l.length
    · have t1 : decide ((200 : Int) < (l.length : Int)) = true := by simp; omega
      go_wp2_with (fail)
      refine (awake _).mono ?_
      rintro e w2 ⟨rfl, hb2⟩
      go_wp2
      go_ret
      exact ⟨rfl, B1.out.trans (hb2.mono B1.out.size)⟩
    · have t1 : decide ((200 : Int) < (l.length : Int)) = false := by simp; omega
      go_wp2_with (fail)
      refine (KN.out _ B1.out).mono ?_
      rintro e w2 ⟨rfl, h2, _⟩
      have H2 := Lib.hid h2
      clear h2
      generalize w1.heap.size = p at H2 ⊢
      go_wp2_with (fail)
      refine (KN.out _ H2.out.below).mono ?_
      rintro e w3 ⟨rfl, h3', hb3⟩
      have H3 : Hid (Two w p w2.heap.size 1024 [] [] w3) := ⟨H2.out.more hb3, h3', by have := H2.out.heap.lt; omega⟩
      clear h3' hb3
      generalize w2.heap.size = q at H3 ⊢
      go_wp2
      go_loopw [9] (fun i W => OuterRel l w3 i W) (fun i _ => l.length - (intOf i).toNat)
      case atStart => exact ⟨0, 0, by omega, rfl, rfl, fun _ _ _ _ _ h => by omega⟩
      case round =>
        obtain ⟨k, d, hk, rfl, rfl, hall⟩ := hrel
        have HA := Lib.hid hall
        clear hall
        by_cases hlt : k < l.length
        · have t2 : decide ((k : Int) < (l.length : Int)) = true := by simp; omega
          have hx : l[k]? = some l[k] := List.getElem?_eq_getElem hlt
          obtain ⟨b, off, rfl, hbl, _, _, _, x3⟩ := (HR.out.below (Nat.le_refl _) H3.out.one_.below).cells hx
          have HX := Lib.hid hx
          clear hx
          generalize l[k] = x at x3 HX
          have HI := Lib.hid (show idK x = x.2.2.2 from rfl)
          generalize x.2.2.2 = z at x3 HI
          go_wp2
          go_loopw [10] (fun i W => InnerRel l k z w3 i W) (fun i _ => k - (intOf i).toNat)
          case atStart => exact ⟨0, d, by omega, rfl, rfl, fun _ _ h => by omega⟩
          case round =>
            obtain ⟨j, d2, hj, rfl, rfl, hin⟩ := hrel
            have HN := Lib.hid hin
            clear hin
            by_cases hjk : j < k
            · have t3 : decide ((j : Int) < (k : Int)) = true := by simp; omega
              have hy : l[j]? = some l[j] := List.getElem?_eq_getElem (by omega)
              have hcy := (HR.out.below (Nat.le_refl _) H3.out.one_.below).cells hy
              obtain ⟨b', off', eb, _, _, _, _, y3⟩ := hcy
              cases eb
              have HY := Lib.hid hy
              clear hy
              generalize l[j]'(by omega) = y at y3 HY
              have HJ := Lib.hid (show idK y = y.2.2.2 from rfl)
              generalize y.2.2.2 = v at y3 HJ
              by_cases hv : v = z
              · have t4 : (v == z) = true := by simp [hv]
                clear hv
                go_wp2
                go_quiet (fail)
                go_wp2
                go_ret
                exact ⟨rfl, below_drewN (below_drewN H3.out.one_.below _) _⟩
              · have t4 : (v == z) = false := by simp [hv]
                have HN1 : Hid (∀ a x, a < j + 1 → l[a]? = some x → idK x ≠ z) := fun a x ha hx => by
                  by_cases e : a = j
                  · subst e
                    rw [HY.out] at hx
                    cases hx
                    rw [HJ.out]; exact hv
                  · exact HN.out a x (by omega) hx
                clear hv
                go_wp2
                go_quiet (fail)
                go_wp2
                go_roundw
                case rel => exact ⟨j + 1, _, by omega, by go_num, by first | rfl | rw [World.drewN_drewN], HN1.out⟩
                case measure => simp [intOf]; omega
            · have t3 : decide ((j : Int) < (k : Int)) = false := by simp; omega
              have t3' : decide (j < k) = false := by simp; omega
              have HA1 : Hid (∀ a b x y, a < b → b < k + 1 → l[a]? = some x → l[b]? = some y → idK x ≠ idK y) := fun a b x' y' hab hb hx hy => by
                by_cases e : b = k
                · subst e
                  rw [HX.out] at hy
                  cases hy
                  rw [HI.out]
                  exact HN.out a x' (by omega) hx
                · exact HA.out a b x' y' hab (by omega) hx hy
              go_wp2
              go_roundw
              case rel => exact ⟨k + 1, d2, by omega, by go_num, rfl, HA1.out⟩
              case measure => simp [intOf]; omega
        · have t2 : decide ((k : Int) < (l.length : Int)) = false := by simp; omega
          have t2' : decide (k < l.length) = false := by simp; omega
          have HND := Lib.hid (nodup_upto (l := l) (fun i j x y hij hx hy => HA.out i j x y hij (by have := (List.getElem?_eq_some_iff.1 hy).1; omega) hx hy))
          have H4 := Lib.hid (H3.out.drewN d)
          generalize w3.drewN d = w4 at H4 ⊢
          clear HA H3
          have h0' : ¬ ((l.length : Int) = 0) := by omega
          obtain ⟨u, hu⟩ : ∃ u, u = t % l.length := ⟨_, rfl⟩
          have hul : u < l.length := by rw [hu]; exact Nat.mod_lt _ (by omega)
          have hq : (t : Int) % (l.length : Int) = (u : Int) := by rw [hu, Int.natCast_emod]
          have HQ := Lib.hid hq
          clear hu hq
          have HND2 : Hid (((rot u l).map idK).Nodup) := ((rot_perm u l).map idK).nodup_iff.2 HND.out
          go_wp2
          rw [HQ.out]
          go_loopw [12] (fun i W => PushRel l (rot u l) w p q i W) (fun i _ => l.length - (intOf i).toNat)
          case atStart => exact ⟨0, [], [], by omega, rfl, by simp, by simp, H4.out⟩
          case round =>
            obtain ⟨j, m, n, hj, rfl, hpm, hpn, hh⟩ := hrel
            have HPM := Lib.hid hpm
            have HPN := Lib.hid hpn
            have H5 := Lib.hid hh
            clear hpm hpn hh H4
            by_cases hjl : j < l.length
            · have t4 : decide ((j : Int) < (l.length : Int)) = true := by simp; omega
              obtain ⟨z, hz⟩ : ∃ z, z = (j + u) % l.length := ⟨_, rfl⟩
              have hzl : z < l.length := by rw [hz]; exact Nat.mod_lt _ (by omega)
              have e1 : ((j : Int) + (u : Int)) % (l.length : Int) = (z : Int) := by rw [hz, Int.natCast_emod, Int.natCast_add]
              have hrz : (rot u l)[j]? = l[z]? := by rw [rot_at u l j hjl hul, hz]
              clear hz
              have hx : l[j]? = some l[j] := List.getElem?_eq_getElem hjl
              have hy : l[z]? = some l[z] := List.getElem?_eq_getElem hzl
              have hml : m.length < 1024 := by rw [HPM.out.length_eq, List.length_take]; omega
              have hnl : n.length < 1024 := by rw [HPN.out.length_eq, List.length_take]; omega
              have K1 := Lib.hid (has_push l[j] (fresh_perm HND.out hx HPM.out) hml H5.out.one_)
              have P1 := Lib.hid (perm_step hx HPM.out)
              have K2 : Hid (∀ W, Has w q 1024 n W → Calls Try.prog 13 #[.pointer (some ⟨q, 0, none⟩), aggQ l[z]] W (Then (.int .i64 0) w q 1024 (putK n l[z]) W)) := fun W h => has_push l[z] (fresh_perm HND2.out (hrz.trans hy) HPN.out) hnl h
              have P2 := Lib.hid (perm_step (hrz.trans hy) HPN.out)
              obtain ⟨b, off, rfl, hbl, x0, x1, x2, x3⟩ := (HR.out.below (Nat.le_refl _) H5.out.one_.below).cells hx
              have CY : Hid (∀ W, Below w.heap.size w W → W.cell? ⟨b, off + z * 4, none⟩ = some (.int .i64 l[z].1) ∧ W.cell? ⟨b, off + z * 4 + 1, none⟩ = some (.int .i64 l[z].2.1) ∧ W.cell? ⟨b, off + z * 4 + 2, none⟩ = some (.int .i64 l[z].2.2.1) ∧ W.cell? ⟨b, off + z * 4 + 3, none⟩ = some (.int .i64 l[z].2.2.2)) := fun W hW => by
                obtain ⟨b', off', eb, _, h⟩ := (HR.out.below (Nat.le_refl _) hW).cells hy
                cases eb
                exact h
              clear hrz hx hy
              generalize l[j] = x at x0 x1 x2 x3 K1 P1
              generalize l[z] = y at CY K2 P2
              generalize putK m x = m2 at K1 P1
              generalize putK n y = n2 at K2 P2
              obtain ⟨x4, x5, x6, x7⟩ := x
              obtain ⟨y4, y5, y6, y7⟩ := y
              simp only [aggQ] at x0 x1 x2 x3 K1 K2 CY
              go_wp2_with (fail)
              with_reducible refine K1.out.mono ?_
              intro e w5 h5
              have H6 := Lib.hid (H5.out.first h5)
              obtain ⟨rfl, _, _⟩ := h5
              clear x0 x1 x2 x3
              obtain ⟨y0, y1, y2, y3⟩ := CY.out _ H6.out.one_.below
              go_wp2_with (fail)
              (try rw [e1])
              with_reducible refine (K2.out _ H6.out.two_).mono ?_
              intro e w6 h6
              have H7 := Lib.hid (H6.out.second h6)
              obtain ⟨rfl, _, _⟩ := h6
              clear y0 y1 y2 y3
              go_wp2
              go_roundw
              case rel => exact ⟨j + 1, m2, n2, by omega, by go_num, P1.out, P2.out, H7.out⟩
              case measure => simp [intOf]; omega
            · have t4 : decide ((j : Int) < (l.length : Int)) = false := by simp; omega
              have t4' : decide (j < l.length) = false := by simp; omega
              have hjl' : j = l.length := by omega
              have HMN := Lib.hid (show n = m by
                have h1 := HPM.out
                have h2 := HPN.out
                rw [List.take_of_length_le (by omega)] at h1
                rw [List.take_of_length_le (by rw [(rot_perm u l).length_eq]; omega)] at h2
                exact srt_unique H5.out.two_.heap.good.srt H5.out.one_.heap.good.srt (h2.trans ((rot_perm u l).trans h1.symm)))
              have HML := Lib.hid (show m.length = l.length by rw [HPM.out.length_eq, List.length_take]; omega)
              have H6 := Lib.hid (H5.out.eq rfl HMN.out)
              have KS : Hid (∀ r W, Has w r 1024 m W → Calls Try.prog 21 #[.pointer (some ⟨r, 0, none⟩)] W (HasAll l.length w r 1024 m W)) := fun r W h => has_sorted l.length HML.out h
              clear H5 HPM HPN
              go_wp2_with (fail)
              with_reducible refine (KS.out _ _ H6.out.one_).mono ?_
              rintro e w5 ⟨A5, c5, rfl, _, hb5, _, hk5, _⟩
              have H7 := Lib.hid (H6.out.more hb5)
              have HK5 := Lib.hid hk5
              clear hb5 hk5
              go_wp2_with (fail)
              with_reducible refine (KS.out _ _ H7.out.two_).mono ?_
              rintro e w6 ⟨A6, c6, rfl, _, hb6, _, hk6, _⟩
              have H8 := Lib.hid (H7.out.more hb6)
              have SM := Lib.hid (refSame m A5 A6 c5 c6 (by rw [HML.out]; omega) (HK5.out.below (Nat.le_refl _) hb6) hk6)
              rw [HML.out] at SM
              clear hb6 hk6
              go_wp2_with (fail)
              with_reducible refine SM.out.mono ?_
              rintro e w7 ⟨rfl, d7, rfl⟩
              have H9 := Lib.hid (H8.out.drewN d7)
              generalize w6.drewN d7 = w7 at H9 ⊢
              go_wp2
              go_loopw [13] (fun i W => PopRel m w p q i W) (fun i _ => l.length - (intOf i).toNat)
              case atStart => exact ⟨0, by omega, rfl, by simpa using H9.out⟩
              case round =>
                obtain ⟨i, hi, rfl, hh⟩ := hrel
                have H10 := Lib.hid hh
                clear hh H9
                have hil : i ≤ l.length := by rw [← HML.out]; exact hi
                by_cases hin : i < l.length
                · have t5 : decide ((i : Int) < (l.length : Int)) = true := by simp; omega
                  have him : i < m.length := by rw [HML.out]; exact hin
                  have HD := Lib.hid (show m.drop i = m[i] :: m.drop (i + 1) from List.drop_eq_getElem_cons him)
                  have K1 := Lib.hid (has_pop (H10.out.one_.eq HD.out))
                  have K2 : Hid (∀ W, Has w q 1024 (m.drop i) W → Calls Try.prog 14 #[.pointer (some ⟨q, 0, none⟩)] W (Then (.tuple #[aggQ m[i], .bool true]) w q 1024 (m.drop (i + 1)) W)) := fun W h => has_pop (h.eq HD.out)
                  generalize m[i] = x at K1 K2
                  obtain ⟨x4, x5, x6, x7⟩ := x
                  simp only [aggQ] at K1 K2
                  go_wp2_with (fail)
                  with_reducible refine K1.out.mono ?_
                  intro e w8 h8
                  have H11 := Lib.hid ((H10.out.first h8).more (below_new w8 (.cells #[.int .i64 x4, .int .i64 x5, .int .i64 x6, .int .i64 x7] 31)))
                  have HL := Lib.hid (Lies.made w8 31 #[.int .i64 x4, .int .i64 x5, .int .i64 x6, .int .i64 x7])
                  have hq8 := (H10.out.first h8).two_.heap.lt
                  obtain ⟨rfl, _, _⟩ := h8
                  go_wp2_with (fail)
                  with_reducible refine (K2.out _ H11.out.two_).mono ?_
                  intro e w9 h9
                  have H12 := Lib.hid ((H11.out.second h9).more (below_new w9 (.cells #[.int .i64 x4, .int .i64 x5, .int .i64 x6, .int .i64 x7] 31)))
                  have HL9 := Lib.hid ((HL.out.turns h9.2.2 (by omega)).alloc (.cells #[.int .i64 x4, .int .i64 x5, .int .i64 x6, .int .i64 x7] 31))
                  have HM9 := Lib.hid (Lies.made w9 31 #[.int .i64 x4, .int .i64 x5, .int .i64 x6, .int .i64 x7])
                  obtain ⟨rfl, _, _⟩ := h9
                  have y0 : (w9.alloc (.cells #[.int .i64 x4, .int .i64 x5, .int .i64 x6, .int .i64 x7] 31)).cell? ⟨w8.heap.size, 0, none⟩ = some (.int .i64 x4) := HL9.out.cell 0
                  have y1 : (w9.alloc (.cells #[.int .i64 x4, .int .i64 x5, .int .i64 x6, .int .i64 x7] 31)).cell? ⟨w8.heap.size, 1, none⟩ = some (.int .i64 x5) := HL9.out.cell 1
                  have y2 : (w9.alloc (.cells #[.int .i64 x4, .int .i64 x5, .int .i64 x6, .int .i64 x7] 31)).cell? ⟨w8.heap.size, 2, none⟩ = some (.int .i64 x6) := HL9.out.cell 2
                  have y3 : (w9.alloc (.cells #[.int .i64 x4, .int .i64 x5, .int .i64 x6, .int .i64 x7] 31)).cell? ⟨w8.heap.size, 3, none⟩ = some (.int .i64 x7) := HL9.out.cell 3
                  go_wp2
                  go_roundw
                  case rel => exact ⟨i + 1, by omega, by go_num, H12.out⟩
                  case measure => simp [intOf]; omega
                · have t5 : decide ((i : Int) < (l.length : Int)) = false := by simp; omega
                  have t5' : decide (i < l.length) = false := by simp; omega
                  have HE := Lib.hid (show m.drop i = [] from List.drop_eq_nil_of_le (by rw [HML.out]; omega))
                  have K1 := Lib.hid (show Calls Try.prog 19 #[.pointer (some ⟨p, 0, none⟩)] wr (Says (.int .i64 0) wr) from lenOf (H10.out.one_.eq HE.out).heap)
                  have K2 := Lib.hid (show Calls Try.prog 19 #[.pointer (some ⟨q, 0, none⟩)] wr (Says (.int .i64 0) wr) from lenOf (H10.out.two_.eq HE.out).heap)
                  go_wp2_with (fail)
                  with_reducible refine K1.out.mono ?_
                  rintro e w8 ⟨rfl, rfl⟩
                  go_wp2_with (fail)
                  with_reducible refine K2.out.mono ?_
                  rintro e w9 ⟨rfl, rfl⟩
                  go_wp2
                  go_ret
                  exact ⟨rfl, H10.out.one_.below⟩
end Orders
end Go.Proofs.Ytblecehmbmbjiaa
