/- What is proved: of whatever two lists of numbers the program's sum of both, one behind the other, is the checked sum of the two sums, as far as nothing is over (promise P1.1); no condition. -/
import Derived.Test.YtibmlkcbhlomhaaRows
import Derived.Test.YtibmlkcbhlomhaaAppend
import Derived.WalkKit
import Derived.ProofKit
import Derived.OpenShut
import Derived.ShutString
import Derived.ChangeOld
import Derived.Below
namespace Go.Proofs.Ytibmlkcbhlomhaa.tickParts
open Go.ChangeShapes Go.WideShapes Go.ChangeAt Go.RowKit
open Go.ChangeMaps (open_string shut_string)
set_option linter.unusedVariables false

theorem own : ownKnob Try.prog.godebug = none := by kernel_rfl
theorem laidOut : laidOutB Try.prog = true := by kernel_rfl

def IsRow (k : IntKind) (w : World) (a : Option Addr) (len cap : Nat) (zs : List Int) : Prop :=
  (a = none ∧ len = 0 ∧ cap = 0 ∧ zs = []) ∨
  ∃ x, a = some x ∧ len ≤ cap ∧ cap ≤ maxLen ∧ zs.length = cap ∧ (∀ i, i < zs.length → w.cell? (x.add i) = some (.int k (zs.getD i 0))) ∧ ∀ n ∈ zs, (Lit.int k n).wf = true
namespace Two
open Tk
theorem grows {l : List Int} : ∀ {u t : Int}, 0 ≤ u → u ≤ 4611686018427387904 → sumFrom u l = some t → u ≤ t ∧ t ≤ 4611686018427387904 := by
  induction l with
  | nil => intro u t h0 h1 h; simp only [sumFrom, Option.some.injEq] at h; omega
  | cons n l ih =>
    intro u t h0 h1 h
    by_cases hb : 0 ≤ n ∧ u + n ≤ 4611686018427387904
    · obtain ⟨e1, e2⟩ := add_yes (a := u) (b := n) h0 hb.1 hb.2
      simp only [sumFrom, e1, e2, if_true] at h
      have := ih (by omega) hb.2 h
      omega
    · obtain ⟨e1, _⟩ := add_no (a := u) (b := n) (by omega)
      simp [sumFrom, e1] at h
theorem more {l : List Int} : ∀ {u s : Int}, 0 ≤ u → 0 ≤ s → s + u ≤ 4611686018427387904 → sumFrom (s + u) l = (sumFrom u l).bind fun t => if s + t ≤ 4611686018427387904 then some (s + t) else none := by
  induction l with
  | nil => intro u s h0 h1 h2; simp [sumFrom, h2]
  | cons n l ih =>
    intro u s h0 h1 h2
    by_cases hb : 0 ≤ n ∧ u + n ≤ 4611686018427387904
    · obtain ⟨e1, e2⟩ := add_yes (a := u) (b := n) h0 hb.1 hb.2
      simp only [sumFrom, e1, e2, if_true]
      by_cases hs : s + u + n ≤ 4611686018427387904
      · obtain ⟨f1, f2⟩ := add_yes (a := s + u) (b := n) (by omega) hb.1 hs
        rw [f1, f2, if_pos rfl, show s + u + n = s + (u + n) by omega, ih (by omega) h1 (by omega)]
      · obtain ⟨f1, _⟩ := add_no (a := s + u) (b := n) (by omega)
        rw [f1]
        cases ht : sumFrom (u + n) l with
        | none => rfl
        | some t =>
          have := grows (by omega) hb.2 ht
          simp; omega
    · obtain ⟨e1, _⟩ := add_no (a := u) (b := n) (by omega)
      obtain ⟨f1, _⟩ := add_no (a := s + u) (b := n) (by omega)
      simp [sumFrom, e1, f1]
theorem both (x y : List Int) : ∀ s, sumFrom s (x ++ y) = (sumFrom s x).bind fun t => sumFrom t y := by
  induction x with
  | nil => intro s; simp [sumFrom]
  | cons n x ih => intro s; simp only [List.cons_append, sumFrom, ih]; split <;> simp
theorem one_over {x y : List Int} (h : sumB x = false ∨ sumB y = false) : sumB (x ++ y) = false ∧ sumV (x ++ y) = 0 := by
  have : sumFrom 0 (x ++ y) = none := by
    rw [both]
    cases hx : sumFrom 0 x with
    | none => rfl
    | some s =>
      have hy : sumFrom 0 y = none := by
        rcases h with h | h
        · simp [sumB, hx] at h
        · simpa [sumB] using h
      have g := grows (by omega) (by omega) hx
      have := more (l := y) (u := 0) (s := s) (by omega) g.1 (by omega)
      rw [Int.add_zero, hy] at this
      simpa using this
  simp [sumB, sumV, this]
theorem none_over {x y : List Int} (hx : sumB x = true) (hy : sumB y = true) : sumB (x ++ y) = addB (sumV x) (sumV y) ∧ sumV (x ++ y) = addV (sumV x) (sumV y) := by
  unfold sumB at hx hy
  obtain ⟨s, ex⟩ := Option.isSome_iff_exists.1 hx
  obtain ⟨t, ey⟩ := Option.isSome_iff_exists.1 hy
  have g := grows (by omega) (by omega) ex
  have g' := grows (by omega) (by omega) ey
  have m := more (l := y) (u := 0) (s := s) (by omega) g.1 (by omega)
  rw [Int.add_zero, ey] at m
  have e : sumFrom 0 (x ++ y) = if s + t ≤ 4611686018427387904 then some (s + t) else none := by rw [both, ex]; exact m
  have vx : sumV x = s := by simp [sumV, ex]
  have vy : sumV y = t := by simp [sumV, ey]
  rw [vx, vy]
  by_cases h : s + t ≤ 4611686018427387904
  · obtain ⟨e1, e2⟩ := add_yes g.1 g'.1 h
    rw [if_pos h] at e
    simp [sumB, sumV, e, e1, e2]
  · obtain ⟨e1, e2⟩ := add_no (a := s) (b := t) (by omega)
    rw [if_neg h] at e
    simp [sumB, sumV, e, e1, e2]
end Two

open Tk (sumB)
theorem own_from {w : World} {base : Nat} {v : Value} {n : Nat} {l : List Value} (h : w.ownsRow base 3 1 v n l) : ∀ k, v.ownBlock = some k → base ≤ k := by
  intro k hk
  rcases h.2 with ⟨rfl, _⟩ | ⟨g, cap, cur, rfl, hg, _⟩
  · cases hk
  · cases hk; exact hg
set_option maxHeartbeats 1000000 in
theorem big (a b : Option Addr) (la lb ca cb : Nat) (w : World) (hla : la ≤ maxLen) (hlb : lb ≤ maxLen) (h : 500 < la ∨ 500 < lb) :
    Calls Try.prog 7 #[.slice a la ca, .slice b lb cb] w (Woke w) := by
  unfold maxLen at hla hlb
  have h' : decide ((500 : Int) < (la : Int)) = true ∨ decide ((500 : Int) < (la : Int)) = false ∧ decide ((500 : Int) < (lb : Int)) = true := by simp; omega
  clear h
  rcases h' with t1 | ⟨t1, t2⟩
  all_goals
    go_enter Try.func7, Try.ntmps7
    go_wp2_with (fail)
    refine (awake_any _).mono ?_
    rintro e w1 ⟨rfl, hb⟩
    go_wp2_with (fail)
    refine (awake_any _).mono ?_
    rintro e w2 ⟨rfl, hb2⟩
    go_wp2
    go_ret
    exact ⟨rfl, hb.trans (hb2.mono hb.size)⟩

set_option maxHeartbeats 2000000 in
theorem core (a b : Option Addr) (la lb ca cb : Nat) (x y : List Int) (w : World) (hla : la ≤ 500) (hlb : lb ≤ 500) (hca : a = none → ca = 0) (hcb : b = none → cb = 0) (hr : Reads w a la x) (hrb : Reads w b lb y) :
    Calls Try.prog 7 #[.slice a la ca, .slice b lb cb] w (Woke w) := by
  have HM := Lib.hid (show la ≤ maxLen by unfold maxLen; omega)
  have HMb := Lib.hid (show lb ≤ maxLen by unfold maxLen; omega)
  have HMc := Lib.hid (show la + lb ≤ maxLen by unfold maxLen; omega)
  have HR := Lib.hid hr
  have HRb := Lib.hid hrb
  have HCa := Lib.hid hca
  have HCb := Lib.hid hcb
  clear hr hrb hca hcb
  have t1 : decide ((500 : Int) < (la : Int)) = false := by simp; omega
  have t2 : decide ((500 : Int) < (lb : Int)) = false := by simp; omega
  go_enter Try.func7, Try.ntmps7
  go_wp2_with (fail)
  refine (awake_any _).mono ?_
  rintro e w1 ⟨rfl, hb⟩
  have HS := Lib.hid (HR.out.below (Nat.le_refl _) hb)
  have HSb := Lib.hid (HRb.out.below (Nat.le_refl _) hb)
  go_wp2_with (fail)
  refine (Sum_reads _ HM.out HS.out).mono ?_
  rintro e w' ⟨rfl, rfl⟩
  go_wp2_with (fail)
  refine (Sum_reads _ HMb.out HSb.out).mono ?_
  rintro e w' ⟨rfl, rfl⟩
  have O1 := Lib.hid (show (w1.alloc (.cells #[] 3)).ownsRow w1.heap.size 3 1 (.slice (some ⟨w1.heap.size, 0, none⟩) 0 0) 0 (cellsOf []) from World.ownsRow_lit w1 #[] 0 (Nat.le_refl _) (Nat.zero_le _) rfl)
  have B1 : Below w1.heap.size w1 (w1.alloc (.cells #[] 3)) := (Below.refl _ _).alloc (Nat.le_refl _) _
  have HA := Lib.hid (HS.out.below (Nat.le_refl _) B1)
  go_wp2_with (at_builtin; first
    | (refine append_reads _ rfl _ _ rfl w1.heap.size _ (0 + la) ([] ++ x) rfl O2.out b lb cb y rfl HCb.out HB.out (by omega) B2.size ?_
       intro v3 w3 O3 G3
       have B3 : Below w1.heap.size w1 w3 := B2.grown G3 B2.size (own_from O2.out)
       obtain ⟨A3, c3, rfl, hR3'⟩ := own_reads O3
       have hR3 := Lib.hid (show Reads w3 A3 (la + lb) (x ++ y) by simpa using hR3')
       clear O3 G3 hR3')
    | (refine append_reads _ rfl _ _ rfl w1.heap.size _ 0 [] rfl O1.out a la ca x rfl HCa.out HA.out (by omega) (by simp) ?_
       intro v2 w2 O2' G2
       have B2 : Below w1.heap.size w1 w2 := B1.grown G2 (by simp) (own_from O1.out)
       have O2 := Lib.hid O2'
       have HB := Lib.hid (HSb.out.below (Nat.le_refl _) B2)
       clear O2' G2))
  with_reducible refine (Sum_reads _ HMc.out hR3.out).mono ?_
  rintro e w' ⟨rfl, rfl⟩
  have HF : Below w.heap.size w w3 := hb.trans (B3.mono hb.size)
  cases hx : sumB x
  · obtain ⟨e1, e2⟩ := Two.one_over (x := x) (y := y) (.inl hx)
    rw [e1, e2]
    clear e1 e2
    have HX := Lib.hid hx
    go_wp2_with (go_at_call 10; refine (Add_any _ _ _).mono ?_; rintro e w' ⟨rfl, rfl⟩)
    go_ret
    exact ⟨rfl, HF⟩
  · cases hy : sumB y
    · obtain ⟨e1, e2⟩ := Two.one_over (x := x) (y := y) (.inr hy)
      rw [e1, e2]
      clear e1 e2
      go_wp2_with (go_at_call 10; refine (Add_any _ _ _).mono ?_; rintro e w' ⟨rfl, rfl⟩)
      go_ret
      exact ⟨rfl, HF⟩
    · obtain ⟨e1, e2⟩ := Two.none_over hx hy
      rw [e1, e2]
      clear e1 e2
      go_wp2_with (go_at_call 10; refine (Add_any _ _ _).mono ?_; rintro e w' ⟨rfl, rfl⟩)
      go_ret
      exact ⟨rfl, HF⟩
theorem walk (a0 : Option Addr) (len0 cap0 : Nat) (z0 : List Int) (a1 : Option Addr) (len1 cap1 : Nat) (z1 : List Int) (w : World) (w0 : IsRow .i64 w a0 len0 cap0 z0) (w1 : IsRow .i64 w a1 len1 cap1 z1) :
    Calls Try.prog 7 #[.slice a0 len0 cap0, .slice a1 len1 cap1] w fun e w' => e = .returned (.bool true) ∧ Below w.heap.size w w' := by
  rcases w0 with ⟨rfl, rfl, rfl, rfl⟩ | ⟨x, rfl, hl, hm, hz, hcell, hwz⟩ <;> rcases w1 with ⟨rfl, rfl, rfl, rfl⟩ | ⟨y, rfl, hl', hm', hz', hcell', hwz'⟩
  · exact core none none 0 0 0 0 [] [] w (by omega) (by omega) (fun _ => rfl) (fun _ => rfl) ⟨rfl, .inl rfl⟩ ⟨rfl, .inl rfl⟩
  · by_cases h : 500 < len1
    · exact big _ _ _ _ _ _ w (Nat.zero_le _) (by omega) (.inr h)
    · exact core none (some y) 0 len1 0 cap1 [] (z1.take len1) w (by omega) (by omega) (fun _ => rfl) (fun e => by cases e) ⟨rfl, .inl rfl⟩ (Reads.mk hl' hz' hcell')
  · by_cases h : 500 < len0
    · exact big _ _ _ _ _ _ w (by omega) (Nat.zero_le _) (.inl h)
    · exact core (some x) none len0 0 cap0 0 (z0.take len0) [] w (by omega) (by omega) (fun e => by cases e) (fun _ => rfl) (Reads.mk hl hz hcell) ⟨rfl, .inl rfl⟩
  · by_cases h : 500 < len0 ∨ 500 < len1
    · exact big _ _ _ _ _ _ w (by omega) (by omega) h
    · exact core (some x) (some y) len0 len1 cap0 cap1 (z0.take len0) (z1.take len1) w (by omega) (by omega) (fun e => by cases e) (fun e => by cases e) (Reads.mk hl hz hcell) (Reads.mk hl' hz' hcell')

set_option maxRecDepth 100000 in
theorem lifted (os : Os) (started : os.Started) (H : Type) (enc : TypeId × Value → H) :
    ReturnsInHanded {} Try.checked os 7 .any (Rows.tickPartsSpec.pre6 enc Try.prog Try.f7 Rows.tickPartsRow.domain false) (Rows.tickPartsSpec.post enc Try.prog Try.f7 false true false false) := by
  refine returnsInHanded_of_change (C := Try.checked) own started (by kernel_rfl) Try.func7
    (ChangeSpec.witness6 (enc := enc) (C := Try.checked) false ⟨#[], #[.slice none 0 0, .slice none 0 0], []⟩ 8 (by kernel_rfl) (by kernel_rfl) (by kernel_rfl) (by kernel_rfl)) ?_
  intro W base args ds gs before hval0 hW hcnd _
  have hval : ∀ (j : Nat) t v, Try.f7.params[j]? = some t → args[j]? = some v → Value.okWide Try.prog W .any base t v := hval0
  have hW' := hW
  obtain ⟨p, q, hA0, hV, rfl, hfz, hnd⟩ := hW
  have hA : DataW.TrodAll enc Try.prog W 0 (fun _ => true) true Try.f7.params.toList args.toList ds p := hA0
  rw [Try.params7] at hA hval
  obtain ⟨v0, vs0, d0, ds0, p0, q0, hargs, rfl, rfl, h0, r0⟩ := trodAll_cons hA
  obtain ⟨v1, vs1, d1, ds1, p1, q1, rfl, rfl, rfl, h1, r1⟩ := trodAll_cons r0
  obtain ⟨rfl, rfl, rfl⟩ := trodAll_nil r1
  obtain rfl : args = #[v0, v1] := by cases args; simp_all
  obtain ⟨rfl, rfl⟩ := trodVars_none hV
  obtain ⟨a0, len0, cap0, rfl⟩ := okWide_slice Try.underlying26 (hval 0 26 v0 rfl rfl)
  have k0 := h0
  have lt0 : ∀ x ∈ p0, x.block < W.heap.size := by obtain ⟨m, hm⟩ := k0; exact DataW.trod_lt m _ _ _ hm
  obtain ⟨z0, w0⟩ : ∃ zs, IsRow .i64 W a0 len0 cap0 zs := by
    obtain ⟨fuel, hf⟩ := h0
    rcases open_ints Try.underlying26 Try.underlying3 (by kernel_rfl) hf with ⟨hcs, _⟩ | ⟨x, l, c, zs, hcs, _, hl, hm, hz, _, hcell, hwz⟩
    · simp [Value.cells] at hcs
      obtain ⟨rfl, rfl, rfl⟩ := hcs
      exact ⟨[], .inl ⟨rfl, rfl, rfl, rfl⟩⟩
    · simp [Value.cells] at hcs
      obtain ⟨rfl, rfl, rfl⟩ := hcs
      exact ⟨zs, .inr ⟨_, rfl, hl, hm, by simpa using hz, hcell, hwz⟩⟩
  obtain ⟨a1, len1, cap1, rfl⟩ := okWide_slice Try.underlying26 (hval 1 26 v1 rfl rfl)
  have k1 := h1
  have lt1 : ∀ x ∈ p1, x.block < W.heap.size := by obtain ⟨m, hm⟩ := k1; exact DataW.trod_lt m _ _ _ hm
  obtain ⟨z1, w1⟩ : ∃ zs, IsRow .i64 W a1 len1 cap1 zs := by
    obtain ⟨fuel, hf⟩ := h1
    rcases open_ints Try.underlying26 Try.underlying3 (by kernel_rfl) hf with ⟨hcs, _⟩ | ⟨x, l, c, zs, hcs, _, hl, hm, hz, _, hcell, hwz⟩
    · simp [Value.cells] at hcs
      obtain ⟨rfl, rfl, rfl⟩ := hcs
      exact ⟨[], .inl ⟨rfl, rfl, rfl, rfl⟩⟩
    · simp [Value.cells] at hcs
      obtain ⟨rfl, rfl, rfl⟩ := hcs
      exact ⟨zs, .inr ⟨_, rfl, hl, hm, by simpa using hz, hcell, hwz⟩⟩
  clear hA0 hval0
  refine (walk a0 len0 cap0 z0 a1 len1 cap1 z1 W w0 w1).mono fun e W' ⟨he, bel⟩ => ?_
  subst he
  exact ⟨_, rfl, _, _, _, [], _, [], hW', trodAll_mk1 (shut_bool Try.underlying4 _), (trodAll_cons_mk (Below.trod laidOut (by kernel_rfl) (of_decide_eq_true (by kernel_rfl)) k0 bel lt0) (trodAll_cons_mk (Below.trod laidOut (by kernel_rfl) (of_decide_eq_true (by kernel_rfl)) k1 bel lt1) trodAll_mk0)), rfl, bel.frame _, fun h => by cases h⟩

theorem over : Rows.tickPartsRow.holds Try.pinned (OpenSpec.ofChange Rows.tickPartsSpec) :=
  OpenClaim.holds_of_wide 7 Try.f7 rfl rfl rfl rfl rfl rfl rfl ⟨rfl, rfl, rfl, rfl, rfl⟩ rfl rfl rfl rfl rfl (by kernel_rfl) Try.func7 (by kernel_rfl)
    (of_decide_eq_true (by kernel_rfl)) (by unfold Func.isWrapper; first | (rw [if_pos (by decide +kernel)]; kernel_rfl) | (rw [if_neg (by decide +kernel)]; exact ⟨rfl, rfl⟩))
    (fun os started H enc _ => lifted os started H enc)

theorem proved : Rows.TickPartsSaid := over
#print axioms proved
end Go.Proofs.Ytibmlkcbhlomhaa.tickParts
namespace Go.Proofs.Ytibmlkcbhlomhaa
theorem tickParts_holds : Rows.TickPartsSaid := tickParts.proved
end Go.Proofs.Ytibmlkcbhlomhaa
