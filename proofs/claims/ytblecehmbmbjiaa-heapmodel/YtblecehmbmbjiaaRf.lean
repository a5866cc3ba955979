/- The statements' own answers: an Id's place, how keys compare, whether rows are the same. -/
import Derived.Test.YtblecehmbmbjiaaSd
namespace Go.Proofs.Ytblecehmbmbjiaa
open Go.RowKit

/-- The first place of an Id, or -1. -/
def RefFinds (l : List Ky) (id : Int) (w : World) (e : Ending) (w' : World) : Prop :=
  w' = w ∧ ((∃ (q : Nat) (k : Ky), l[q]? = some k ∧ idK k = id ∧ (∀ j x, j < q → l[j]? = some x → idK x ≠ id) ∧ e = .returned (.int .i64 (q : Int))) ∨ ((∀ x ∈ l, idK x ≠ id) ∧ e = .returned (.int .i64 (-1))))

set_option maxHeartbeats 1000000 in
theorem refFind (l : List Ky) (id : Int) (a : Option Addr) (c : Nat) {w : World} (hl : l.length ≤ 2000) (h : Keys w a c l) : Calls Try.prog 11 #[.slice a l.length c, .int .i64 id] w (RefFinds l id w) := by
  have HK := Lib.hid h
  clear h
  go_enter Try.func11, Try.ntmps11
  go_wp2
  go_loopw [5] (fun i W => FindRel l id w i W) (fun i _ => l.length - (intOf i).toNat)
  case atStart => exact ⟨0, by omega, rfl, rfl, fun j _ hj => by omega⟩
  case round =>
    obtain ⟨k, hk, rfl, rfl, hall⟩ := hrel
    have HA := Lib.hid hall
    clear hall
    by_cases hlt : k < l.length
    · have t1 : decide ((k : Int) < (l.length : Int)) = true := by simp; omega
      have hx : l[k]? = some l[k] := List.getElem?_eq_getElem hlt
      obtain ⟨b, off, rfl, hb, x0, x1, x2, x3⟩ := HK.out.cells hx
      have HX := Lib.hid hx
      clear hx x0 x1 x2
      generalize l[k] = x at x3 HX
      have HI := Lib.hid (show idK x = x.2.2.2 from rfl)
      generalize x.2.2.2 = d at x3 HI
      by_cases hd : d = id
      · have t2 : (d == id) = true := by simp [hd]
        have HD := Lib.hid hd
        clear hd
        go_wp2
        go_ret
        exact ⟨rfl, .inl ⟨k, x, HX.out, HI.out.trans HD.out, HA.out, rfl⟩⟩
      · have t2 : (d == id) = false := by simp [hd]
        have HA1 : Hid (∀ j y, j < k + 1 → l[j]? = some y → idK y ≠ id) := fun j y hj hy => by
          by_cases e : j = k
          · subst e
            rw [HX.out] at hy
            cases hy
            rw [HI.out]; exact hd
          · exact HA.out j y (by omega) hy
        clear hd
        go_wp2
        go_roundw
        case rel => exact ⟨k + 1, by omega, by go_num, rfl, HA1.out⟩
        case measure => simp [intOf]; omega
    · have t1 : decide ((k : Int) < (l.length : Int)) = false := by simp; omega
      have t1' : decide (k < l.length) = false := by simp; omega
      have HN : Hid (∀ x ∈ l, idK x ≠ id) := fun x hx => by
        obtain ⟨j, hj⟩ := List.getElem?_of_mem hx
        have := (List.getElem?_eq_some_iff.1 hj).1
        exact HA.out j x (by omega) hj
      go_wp2
      go_ret
      exact ⟨rfl, .inr ⟨HN.out, rfl⟩⟩
theorem refFind_yes {l : List Ky} {id : Int} {q : Nat} {k : Ky} {w : World} {a : Option Addr} {c : Nat} (hl : l.length ≤ 2000) (h : Keys w a c l) (hg : Good l) (hq : l[q]? = some k) (hk : idK k = id) :
    Calls Try.prog 11 #[.slice a l.length c, .int .i64 id] w (Says (.int .i64 (q : Int)) w) :=
  (refFind l id a c hl h).mono fun e w' ⟨hw, ho⟩ => by
    subst hw
    rcases ho with ⟨q', k', h1, h2, _, rfl⟩ | ⟨h1, _⟩
    · rw [hg.at_ h1 hq (h2.trans hk.symm)]
      exact ⟨rfl, rfl⟩
    · exact absurd hk (h1 k (List.mem_of_getElem? hq))
theorem refFind_no {l : List Ky} {id : Int} {w : World} {a : Option Addr} {c : Nat} (hl : l.length ≤ 2000) (h : Keys w a c l) (hn : id ∉ l.map idK) :
    Calls Try.prog 11 #[.slice a l.length c, .int .i64 id] w (Says (.int .i64 (-1)) w) :=
  (refFind l id a c hl h).mono fun e w' ⟨hw, ho⟩ => by
    subst hw
    rcases ho with ⟨q', k', h1, h2, _, rfl⟩ | ⟨_, rfl⟩
    · exact absurd (List.mem_map.2 ⟨k', List.mem_of_getElem? h1, h2⟩) hn
    · exact ⟨rfl, rfl⟩

theorem first_at {id : Int} : ∀ {l : List Ky}, id ∈ l.map idK → ∃ (q : Nat) (k : Ky), l[q]? = some k ∧ idK k = id ∧ ∀ j x, j < q → l[j]? = some x → idK x ≠ id
  | [], h => by simp at h
  | y :: l, h => by
    by_cases e : idK y = id
    · exact ⟨0, y, rfl, e, fun j _ hj => by omega⟩
    · have h' : id ∈ l.map idK := by
        rw [List.map_cons, List.mem_cons] at h
        exact h.resolve_left (fun e' => e e'.symm)
      obtain ⟨q, k, h1, h2, h3⟩ := first_at h'
      refine ⟨q + 1, k, by simpa using h1, h2, fun j x hj hx => ?_⟩
      cases j with
      | zero =>
        have : y = x := by simpa using hx
        exact this ▸ e
      | succ j => exact h3 j x (by omega) (by simpa using hx)
theorem refFind_first {l : List Ky} {id : Int} {q : Nat} {k : Ky} {w : World} {a : Option Addr} {c : Nat} (hl : l.length ≤ 2000) (h : Keys w a c l) (hq : l[q]? = some k) (hk : idK k = id) (hf : ∀ j x, j < q → l[j]? = some x → idK x ≠ id) :
    Calls Try.prog 11 #[.slice a l.length c, .int .i64 id] w (Says (.int .i64 (q : Int)) w) :=
  (refFind l id a c hl h).mono fun e w' ⟨hw, ho⟩ => by
    subst hw
    rcases ho with ⟨q', k', h1, h2, h3, rfl⟩ | ⟨h1, _⟩
    · have : q' = q := by
        rcases Nat.lt_trichotomy q' q with h' | h' | h'
        · exact absurd h2 (hf q' k' h' h1)
        · exact h'
        · exact absurd hk (h3 q k h' hq)
      subst this
      exact ⟨rfl, rfl⟩
    · exact absurd hk (h1 k (List.mem_of_getElem? hq))

def CmpRel (Z : Nat → Int) (w : World) (i : Value) (W : World) : Prop := ∃ k m : Nat, k ≤ 4 ∧ i = .int .i64 (k : Int) ∧ W = w.drewN m ∧ orF Z k (4 - k) = orF Z 0 4
theorem cells_four {w : World} {g : Nat} {a b c d : Int} (h : Lies w g 3 #[.int .i64 a, .int .i64 b, .int .i64 c, .int .i64 d]) : ∀ j, j < 4 → w.cell? ⟨g, j, none⟩ = some (.int .i64 (four a b c d j)) := fun j hj => by
  rw [h.cell j]
  match j, hj with
  | 0, _ => rfl
  | 1, _ => rfl
  | 2, _ => rfl
  | 3, _ => rfl

set_option maxRecDepth 100000 in
set_option maxHeartbeats 2000000 in
theorem refCompare (a b : Ky) (w : World) : Calls Try.prog 23 #[aggQ a, aggQ b] w (Tells (.int .i64 (cmpK a b)) w) := by
  obtain ⟨a0, a1, a2, a3⟩ := a
  obtain ⟨b0, b1, b2, b3⟩ := b
  have HC := Lib.hid (show cmpK (a0, a1, a2, a3) (b0, b1, b2, b3) = orF (fun j => c1 (four a0 a1 a2 a3 j) (four b0 b1 b2 b3 j)) 0 4 by
    have := or_four (c1 a0 b0) (c1 a1 b1) (c1 a2 b2) (c1 a3 b3)
    simp only [cmpK, ← this]
    rfl)
  rw [HC.out]
  simp only [aggQ]
  obtain ⟨V, hV⟩ : ∃ V, V = (((w.alloc (.cells #[.int .i64 a0, .int .i64 a1, .int .i64 a2, .int .i64 a3] 31)).alloc (.cells #[.int .i64 b0, .int .i64 b1, .int .i64 b2, .int .i64 b3] 31)).alloc (.cells #[.int .i64 a0, .int .i64 a1, .int .i64 a2, .int .i64 a3] 3)).alloc (.cells #[.int .i64 b0, .int .i64 b1, .int .i64 b2, .int .i64 b3] 3) := ⟨_, rfl⟩
  have HB : Hid (Below w.heap.size w V) := by rw [hV]; exact (((below_new _ _).alloc (by simp) _).alloc (by simp; omega) _).alloc (by simp; omega) _
  have HX := Lib.hid (show Lies V (w.heap.size + 1 + 1) 3 #[.int .i64 a0, .int .i64 a1, .int .i64 a2, .int .i64 a3] by
    rw [hV]
    refine Lies.alloc ?_ _
    have := Lies.made ((w.alloc (.cells #[.int .i64 a0, .int .i64 a1, .int .i64 a2, .int .i64 a3] 31)).alloc (.cells #[.int .i64 b0, .int .i64 b1, .int .i64 b2, .int .i64 b3] 31)) 3 #[.int .i64 a0, .int .i64 a1, .int .i64 a2, .int .i64 a3]
    simpa using this)
  have HY := Lib.hid (show Lies V (w.heap.size + 1 + 1 + 1) 3 #[.int .i64 b0, .int .i64 b1, .int .i64 b2, .int .i64 b3] by
    rw [hV]
    have := Lies.made (((w.alloc (.cells #[.int .i64 a0, .int .i64 a1, .int .i64 a2, .int .i64 a3] 31)).alloc (.cells #[.int .i64 b0, .int .i64 b1, .int .i64 b2, .int .i64 b3] 31)).alloc (.cells #[.int .i64 a0, .int .i64 a1, .int .i64 a2, .int .i64 a3] 3)) 3 #[.int .i64 b0, .int .i64 b1, .int .i64 b2, .int .i64 b3]
    simpa using this)
  have HVE := Lib.hid hV
  clear hV HC
  go_enter Try.func23, Try.ntmps23
  go_wp2
  rw [← HVE.out]
  go_loopw [7] (fun i W => CmpRel (fun j => c1 (four a0 a1 a2 a3 j) (four b0 b1 b2 b3 j)) V i W) (fun i _ => 4 - (intOf i).toNat)
  case atStart => exact ⟨0, 0, by omega, rfl, rfl, rfl⟩
  case round =>
    obtain ⟨k, m, hk, rfl, rfl, he⟩ := hrel
    have HE := Lib.hid he
    clear he
    by_cases hlt : k < 4
    · have t1 : decide ((k : Int) < 4) = true := by simp; omega
      have cx := cells_four HX.out k hlt
      have cy := cells_four HY.out k hlt
      have hs1 := HX.out.lt
      have hs2 := HY.out.lt
      have HN := Lib.hid (show orF (fun j => c1 (four a0 a1 a2 a3 j) (four b0 b1 b2 b3 j)) k (4 - k) = pick1 (c1 (four a0 a1 a2 a3 k) (four b0 b1 b2 b3 k)) (orF (fun j => c1 (four a0 a1 a2 a3 j) (four b0 b1 b2 b3 j)) (k + 1) (4 - (k + 1))) by rw [show 4 - k = 4 - (k + 1) + 1 by omega]; rfl)
      generalize four a0 a1 a2 a3 k = x at cx HN
      generalize four b0 b1 b2 b3 k = y at cy HN
      have i1 : (0 : Int) ≤ (k : Int) := by omega
      have i2 : (k : Int) < 4 := by omega
      rcases c1_cases x y with ⟨h, e⟩ | ⟨h, e⟩ | ⟨h, e⟩
      · have t2 : decide (x < y) = true := by simp; omega
        have HE1 := Lib.hid (show (-1 : Int) = orF (fun j => c1 (four a0 a1 a2 a3 j) (four b0 b1 b2 b3 j)) 0 4 by rw [← HE.out, HN.out, e]; rfl)
        clear h e
        go_wp2
        go_quiet (fail)
        go_wp2
        go_ret
        exact ⟨ret_int HE1.out, below_drewN (below_drewN HB.out _) _⟩
      · have t2 : decide (x < y) = false := by simp; omega
        have t3 : decide (y < x) = true := by simp; omega
        have HE1 := Lib.hid (show (1 : Int) = orF (fun j => c1 (four a0 a1 a2 a3 j) (four b0 b1 b2 b3 j)) 0 4 by rw [← HE.out, HN.out, e]; rfl)
        clear h e
        go_wp2
        go_quiet (fail)
        go_wp2
        go_quiet (fail)
        go_wp2
        go_ret
        exact ⟨ret_int HE1.out, below_drewN (below_drewN (below_drewN HB.out _) _) _⟩
      · have t2 : decide (x < y) = false := by simp; omega
        have t3 : decide (y < x) = false := by simp; omega
        have HE1 := Lib.hid (show orF (fun j => c1 (four a0 a1 a2 a3 j) (four b0 b1 b2 b3 j)) (k + 1) (4 - (k + 1)) = orF (fun j => c1 (four a0 a1 a2 a3 j) (four b0 b1 b2 b3 j)) 0 4 by rw [← HE.out, HN.out, e]; rfl)
        clear h e
        go_wp2
        go_quiet (fail)
        go_wp2
        go_quiet (fail)
        go_wp2
        go_roundw
        case rel => exact ⟨k + 1, _, by omega, by go_num, by first | rfl | rw [World.drewN_drewN, World.drewN_drewN], HE1.out⟩
        case measure => simp [intOf]; omega
    · have t1 : decide ((k : Int) < 4) = false := by simp; omega
      have t1' : decide (k < 4) = false := by simp; omega
      have HE1 := Lib.hid (show (0 : Int) = orF (fun j => c1 (four a0 a1 a2 a3 j) (four b0 b1 b2 b3 j)) 0 4 by rw [← HE.out, show 4 - k = 0 by omega]; rfl)
      go_wp2
      go_ret
      exact ⟨ret_int HE1.out, below_drewN HB.out _⟩

def SameRel (n : Nat) (w : World) (i : Value) (W : World) : Prop := ∃ k m : Nat, k ≤ n ∧ i = .int .i64 (k : Int) ∧ W = w.drewN m
set_option maxRecDepth 100000 in
set_option maxHeartbeats 2000000 in
theorem refSame (l : List Ky) (x y : Option Addr) (c d : Nat) {w : World} (hl : l.length ≤ 2000) (hx : Keys w x c l) (hy : Keys w y d l) :
    Calls Try.prog 20 #[.slice x l.length c, .slice y l.length d] w (Saw (.bool true) w) := by
  have HX := Lib.hid hx
  have HY := Lib.hid hy
  clear hx hy
  go_enter Try.func20, Try.ntmps20
  go_wp2
  go_loopw [5] (fun i W => SameRel l.length w i W) (fun i _ => l.length - (intOf i).toNat)
  case atStart => exact ⟨0, 0, by omega, rfl, rfl⟩
  case round =>
    obtain ⟨k, m, hk, rfl, rfl⟩ := hrel
    by_cases hlt : k < l.length
    · have t1 : decide ((k : Int) < (l.length : Int)) = true := by simp; omega
      have hx : l[k]? = some l[k] := List.getElem?_eq_getElem hlt
      obtain ⟨b1, o1, rfl, _, u0, u1, u2, u3⟩ := HX.out.cells hx
      obtain ⟨b2, o2, rfl, _, v0, v1, v2, v3⟩ := HY.out.cells hx
      clear hx
      generalize l[k] = t at u0 u1 u2 u3 v0 v1 v2 v3
      obtain ⟨t0, t4, t2, t3⟩ := t
      simp only at u0 u1 u2 u3 v0 v1 v2 v3
      go_wp2
      go_quiet (fail)
      go_wp2
      go_roundw
      case rel => first | exact ⟨k + 1, _, by omega, by go_num, rfl⟩ | exact ⟨k + 1, _, by omega, by go_num, World.drewN_drewN _ _ _⟩
      case measure => simp [intOf]; omega
    · have t1 : decide ((k : Int) < (l.length : Int)) = false := by simp; omega
      have t1' : decide (k < l.length) = false := by simp; omega
      go_wp2
      go_ret
      exact ⟨rfl, m, rfl⟩
end Go.Proofs.Ytblecehmbmbjiaa
