/- The statements' own answer: a spot, a line, a line's shape. -/
import Derived.Test.YteolepmopajamaaSe
namespace Go.Proofs.Yteolepmopajamaa
open Go.RowKit Lx Kx

theorem results_two {fn : Func} {s s' : Nat} (h : fn.results = #[.cell s 26, .cell s' 29]) (tmps : Array Value) (w : World) (g g' : Nat) (cs cs' : Array Value) (hp : tmps.getD s undef = .pointer (some ⟨g, 0, none⟩)) (hq : tmps.getD s' undef = .pointer (some ⟨g', 0, none⟩)) (hL : Lies w g 26 cs) (hL' : Lies w g' 29 cs') (hs : cs.size = 2) (hs' : cs'.size = 3) :
    (results fn tmps).run Try.prog w = .ok (.tuple #[.agg cs, .agg cs']) w := by
  have hp' : tmps[s]?.getD undef = .pointer (some ⟨g, 0, none⟩) := by simpa using hp
  have hq' : tmps[s']?.getD undef = .pointer (some ⟨g', 0, none⟩) := by simpa using hq
  simp [results, h, hp', hq', asAddr, run_loadVar_row (P := Try.prog) w g 26 26 cs (0, 0) _ hL Try.underlying26 rfl (by rw [hs]; rfl), run_loadVar_row (P := Try.prog) w g' 29 29 cs' (0, 0) _ hL' Try.underlying29 rfl (by rw [hs']; rfl)]
/-- No set, and a spot. -/
def Spotted (n : Nat) (t : Tok) (w : World) (e : Ending) (w' : World) : Prop :=
  e = .returned (.tuple #[.agg #[.int .i64 0, .slice none 0 0], .agg #[.int .i64 (n : Int), .int .i64 (t.line : Nat), .int .i64 (t.col : Nat)]]) ∧ Below w.heap.size w w'

set_option maxRecDepth 100000 in
set_option maxHeartbeats 2000000 in
theorem refSpot (t : Tok) (n : Nat) (z : Int) (hz : z = (n : Int)) (w : World) : Calls Try.prog 25 #[.int .i64 z, .agg (cellsT t).toArray] w (Spotted n t w) := by
  subst hz
  obtain ⟨U, hU⟩ : ∃ U, U = w.alloc (.cells #[.int .i64 (t.kind : Nat), .string ⟨t.text.toArray⟩, .int .i64 (t.value : Nat), .int .i64 (t.line : Nat), .int .i64 (t.col : Nat)] 45) := ⟨_, rfl⟩
  obtain ⟨r, hr⟩ : ∃ r, r = U.heap.size := ⟨_, rfl⟩
  have hr' : r = w.heap.size + 1 := by rw [hr, hU]; simp
  obtain ⟨V, hV⟩ : ∃ V, V = (U.alloc (.cells #[.int .i64 0, .slice none 0 0] 26)).alloc (.cells #[.int .i64 0, .int .i64 0, .int .i64 0] 29) := ⟨_, rfl⟩
  have HB : Hid (Below w.heap.size w V) := by rw [hV, hU]; exact ((below_new _ _).alloc (by simp) _).alloc (by simp; omega) _
  have HA : Hid (Lies V r 26 #[.int .i64 0, .slice none 0 0]) := by rw [hV, hr]; exact (Lies.made _ _ _).alloc _
  have HC := Lib.hid (show Lies V (r + 1) 29 #[.int .i64 0, .int .i64 0, .int .i64 0] by
    rw [hV, hr]
    have := Lies.made (U.alloc (.cells #[.int .i64 0, .slice none 0 0] 26)) 29 #[.int .i64 0, .int .i64 0, .int .i64 0]
    simpa using this)
  have HX : Hid (Lies V w.heap.size 45 #[.int .i64 (t.kind : Nat), .string ⟨t.text.toArray⟩, .int .i64 (t.value : Nat), .int .i64 (t.line : Nat), .int .i64 (t.col : Nat)]) := by rw [hV, hU]; exact ((Lies.made _ _ _).alloc _).alloc _
  have x3 : V.cell? ⟨w.heap.size, 3, none⟩ = some (.int .i64 (t.line : Nat)) := (HX.out.cell 3).trans rfl
  have x4 : V.cell? ⟨w.heap.size, 4, none⟩ = some (.int .i64 (t.col : Nat)) := (HX.out.cell 4).trans rfl
  obtain ⟨s0, s1, p0, p1, p2, f0, f1, g0, g1, g2⟩ := rooms HA.out HC.out
  have n1 : w.heap.size ≠ r := by omega
  have n2 : w.heap.size ≠ r + 1 := by omega
  have HVU : Hid ((((w.alloc (.cells #[.int .i64 (t.kind : Nat), .string ⟨t.text.toArray⟩, .int .i64 (t.value : Nat), .int .i64 (t.line : Nat), .int .i64 (t.col : Nat)] 45)).alloc (.cells #[.int .i64 0, .slice none 0 0] 26)).alloc (.cells #[.int .i64 0, .int .i64 0, .int .i64 0] 29)) = V) := by rw [hV, hU]; exact (rfl : _ = _)
  have HR := Lib.hid hr'
  have hle : w.heap.size ≤ r := by omega
  clear hV hU hr hr'
  unfold cellsT
  go_enter Try.func25, Try.ntmps25
  go_upto_region 1 with fail
  rw [HVU.out, ← HR.out]
  go_region
  all_goals
    go_wp2
    (try simp only [Exit.inBlock, Exit.then])
    refine bodyPost_ret (results_two rfl _ _ r (r + 1) _ _ rfl rfl ((stored_set HA.out (.int .i64 0) (.slice none 0 0) (.int .i64 (n : Int)) (.int .i64 (t.line : Nat)) (.int .i64 (t.col : Nat))).drewN _) ((stored_spot HC.out (.int .i64 0) (.slice none 0 0) (.int .i64 (n : Int)) (.int .i64 (t.line : Nat)) (.int .i64 (t.col : Nat))).drewN _) rfl rfl) rfl ?_
    exact ⟨rfl, below_drewN (stored_below HB.out hle (.int .i64 0) (.slice none 0 0) (.int .i64 (n : Int)) (.int .i64 (t.line : Nat)) (.int .i64 (t.col : Nat))) _⟩

/-- A token's cells in a row of tokens. -/
theorem tok_at {w : World} {A : Option Addr} {ts : List Tok} {i : Nat} {t : Tok} (h : Toks w A ts) (hi : ts[i]? = some t) : ∃ b off, A = some ⟨b, off, none⟩ ∧ b < w.heap.size ∧ ∀ j u, ts[j]? = some u →
    w.cell? ⟨b, off + j * 5, none⟩ = some (.int .i64 (u.kind : Nat)) ∧ w.cell? ⟨b, off + j * 5 + 1, none⟩ = some (.string ⟨u.text.toArray⟩) ∧ w.cell? ⟨b, off + j * 5 + 2, none⟩ = some (.int .i64 (u.value : Nat)) ∧ w.cell? ⟨b, off + j * 5 + 3, none⟩ = some (.int .i64 (u.line : Nat)) ∧ w.cell? ⟨b, off + j * 5 + 4, none⟩ = some (.int .i64 (u.col : Nat)) := by
  have hl := (List.getElem?_eq_some_iff.1 hi).1
  obtain ⟨b, off, ha, hlt, hc⟩ := h (by omega)
  exact ⟨b, off, ha, hlt, fun j u hj => ⟨hc j u hj 0 _ rfl, hc j u hj 1 _ rfl, hc j u hj 2 _ rfl, hc j u hj 3 _ rfl, hc j u hj 4 _ rfl⟩⟩
def LineRel' (w : World) (i : Nat) (v : Value) (W : World) : Prop := ∃ k : Nat, k ≤ i ∧ v = .int .i64 (k : Int) ∧ W = w

set_option maxHeartbeats 2000000 in
theorem refLine (ts : List Tok) (A : Option Addr) (c i : Nat) (t : Tok) {w : World} (hl : ts.length ≤ 1000000) (hc : ts.length ≤ c) (hT : Toks w A ts) (hi : ts[i]? = some t) (ht : 3 ≤ t.kind) (hb : ∀ j u, j < i → ts[j]? = some u → u.kind < 3) :
    Calls Try.prog 23 #[.slice A ts.length c] w (Says (.slice A (i + 1) c) w) := by
  obtain ⟨b, off, rfl, _, hcell⟩ := tok_at hT hi
  have hil := (List.getElem?_eq_some_iff.1 hi).1
  have HC := Lib.hid hcell
  have HI := Lib.hid hi
  have HT := Lib.hid ht
  have HB := Lib.hid hb
  clear hT hcell hi ht hb
  go_enter Try.func23, Try.ntmps23
  go_wp2
  go_loopw [3] (fun v W => LineRel' w i v W) (fun v _ => ts.length - (intOf v).toNat)
  case atStart => exact ⟨0, Nat.zero_le _, rfl, rfl⟩
  case round =>
    obtain ⟨k, hk, rfl, rfl⟩ := hrel
    have hkl : k < ts.length := by omega
    have t1 : decide ((k : Int) < (ts.length : Int)) = true := by simp; omega
    obtain ⟨u, hu⟩ : ∃ u, ts[k]? = some u := ⟨_, List.getElem?_eq_getElem hkl⟩
    have ck := (HC.out k u hu).1
    by_cases hki : k < i
    · have hlt := HB.out k u hki hu
      have q : decide ((3 : Int) ≤ (u.kind : Int)) = false := by simp; omega
      clear hu hlt
      generalize (u.kind : Int) = z at ck q
      go_wp2
      go_roundw
      case rel => exact ⟨k + 1, by omega, by go_num, rfl⟩
      case measure => simp [intOf]; omega
    · obtain rfl : k = i := by omega
      rw [HI.out] at hu
      cases hu
      have q : decide ((3 : Int) ≤ (t.kind : Int)) = true := by have := HT.out; simp; omega
      generalize (t.kind : Int) = z at ck q
      go_wp2
      go_ret
      exact ⟨rfl, rfl⟩

/-- The first token that isn't what is asked, or none. -/
def Shaped (ask : Nat → Tok → Bool) (K : Nat) (x : List Tok) (w : World) (e : Ending) (w' : World) : Prop :=
  ((∃ (i : Nat) (t : Tok), e = .returned (.int .i64 (i : Int)) ∧ x[i]? = some t ∧ i < K ∧ (∀ j, j < i → ∃ u, x[j]? = some u ∧ ask j u = true) ∧ ask i t = false) ∨
   (e = .returned (.int .i64 (-1)) ∧ ∀ j, j < K → j < x.length → ∃ u, x[j]? = some u ∧ ask j u = true)) ∧ w = w'
def ShapeRel (ask : Nat → Tok → Bool) (K : Nat) (x : List Tok) (w : World) (v : Value) (W : World) : Prop :=
  ∃ k : Nat, k ≤ K ∧ k ≤ x.length ∧ v = .int .i64 (k : Int) ∧ W = w ∧ ∀ j, j < k → ∃ u, x[j]? = some u ∧ ask j u = true
theorem shape_on {ask : Nat → Tok → Bool} {x : List Tok} {k : Nat} {t : Tok} (h : ∀ j, j < k → ∃ u, x[j]? = some u ∧ ask j u = true) (hk : x[k]? = some t) (ha : ask k t = true) : ∀ j, j < k + 1 → ∃ u, x[j]? = some u ∧ ask j u = true := fun j hj => by
  by_cases e : j < k
  · exact h j e
  · obtain rfl : j = k := by omega
    exact ⟨t, hk, ha⟩
def ksB : Array Value := #[.int .i64 1, .int .i64 2, .int .i64 3]
def ksT : Array Value := #[.int .i64 1, .int .i64 1, .int .i64 2, .int .i64 2, .int .i64 2, .int .i64 1, .int .i64 2, .int .i64 2, .int .i64 2, .int .i64 2, .int .i64 2, .int .i64 2, .int .i64 3]
/-- A kind as the shape takes it. -/
def kind' (t : Tok) : Nat := if t.kind = 4 then 3 else t.kind
def ksN : Nat → Nat
  | 12 => 3
  | i => kindT i
def ksM : Nat → Nat
  | 0 => 1
  | 1 => 2
  | _ => 3
theorem askT_plain {t : Tok} {k : Nat} (hk : k < 13) (h0 : k ≠ 0) (h5 : k ≠ 5) : askT k t = decide (kind' t = ksN k) := by
  by_cases h12 : k = 12
  · subst h12
    rw [askT_over]
    unfold kind'
    by_cases h4 : t.kind = 4
    · simp [h4, ksN]
    · simp [h4, ksN]
  · have hN : ksN k = kindT k := by
      unfold ksN
      split
      · omega
      · rfl
    have hk2 : kindT k = 1 ∨ kindT k = 2 := by unfold kindT; split <;> simp
    rw [hN]
    unfold askT kind'
    rw [if_neg h12, if_neg h0, if_neg h5]
    by_cases h4 : t.kind = 4
    · rw [if_pos h4, h4]
      rcases hk2 with h | h <;> simp [h]
    · simp [h4]
theorem askB_plain {t : Tok} {k : Nat} (hk : k < 3) (h0 : k ≠ 0) : askB k t = decide (kind' t = ksM k) := by
  match k, hk, h0 with
  | 1, _, _ =>
    unfold kind'
    by_cases h4 : t.kind = 4
    · simp [askB, h4, ksM]
    · simp [askB, h4, ksM]
  | 2, _, _ =>
    unfold kind'
    by_cases h4 : t.kind = 4
    · simp [askB, h4, ksM]
    · simp [askB, h4, ksM]
theorem ksT_at {k : Nat} (hk : k < 13) : ksT[k]? = some (.int .i64 (ksN k : Int)) := by
  match k, hk with
  | 0, _ => rfl
  | 1, _ => rfl
  | 2, _ => rfl
  | 3, _ => rfl
  | 4, _ => rfl
  | 5, _ => rfl
  | 6, _ => rfl
  | 7, _ => rfl
  | 8, _ => rfl
  | 9, _ => rfl
  | 10, _ => rfl
  | 11, _ => rfl
  | 12, _ => rfl
theorem ksB_at {k : Nat} (hk : k < 3) : ksB[k]? = some (.int .i64 (ksM k : Int)) := by
  match k, hk with
  | 0, _ => rfl
  | 1, _ => rfl
  | 2, _ => rfl

set_option maxRecDepth 100000 in
set_option maxHeartbeats 8000000 in
theorem shapeB (x : List Tok) (A : Option Addr) (c kb : Nat) {w : World} (_ : x.length ≤ 1000000) (h0 : 0 < x.length) (hT : Toks w A x) (hK : Lies w kb 3 ksB) :
    Calls Try.prog 26 #[.slice A x.length c, .slice (some ⟨kb, 0, none⟩) 3 3] w (Shaped askB 3 x w) := by
  obtain ⟨b, off, rfl, _, hcell⟩ := tok_at hT (List.getElem?_eq_getElem h0)
  have HC := Lib.hid hcell
  have HK := Lib.hid hK
  have k1 : w.cell? ⟨kb, 1, none⟩ = some (.int .i64 2) := (hK.cell 1).trans rfl
  clear hT hcell hK
  go_enter Try.func26, Try.ntmps26
  go_wp2
  go_loopw [5] (fun v W => ShapeRel askB 3 x w v W) (fun v _ => 3 - (intOf v).toNat)
  case atStart => exact ⟨0, Nat.zero_le _, Nat.zero_le _, rfl, rfl, fun j hj => by omega⟩
  case round =>
    obtain ⟨k, hk, hkx, rfl, rfl, hj⟩ := hrel
    have HJ := Lib.hid hj
    clear hj
    by_cases hlx : k < x.length
    · have t1 : decide ((k : Int) < (x.length : Int)) = true := by simp; omega
      by_cases hkK : k < 3
      · have t2 : decide ((k : Int) < 3) = true := by simp; omega
        obtain ⟨t, hx⟩ : ∃ t, x[k]? = some t := ⟨_, List.getElem?_eq_getElem hlx⟩
        have HX := Lib.hid hx
        have ck := (HC.out k t hx).1
        have cks : wr.cell? ⟨kb, k, none⟩ = some (.int .i64 (ksM k : Int)) := (HK.out.cell k).trans (ksB_at hkK)
        by_cases hk0 : k = 0
        · have z0 : ((k : Int) == 0) = true := by rw [hk0]; rfl
          have z5 : ((k : Int) == 5) = false := by rw [hk0]; rfl
          have HK0 := Lib.hid hk0
          have cx : wr.cell? ⟨b, off + 1, none⟩ = some (.string ⟨t.text.toArray⟩) := by have := (HC.out k t hx).2.1; rw [hk0] at this; simpa using this
          clear hx hk0
          by_cases h4 : t.kind = 4
          · have q4 : ((t.kind : Int) == 4) = true := by rw [h4]; rfl
            by_cases hm : 3 = ksM k
            · skip
              have qn : ((3 : Int) != (ksM k : Int)) = false := by simp; omega
              exact absurd hm (by rw [HK0.out]; decide)
            · skip
              have qn : ((3 : Int) != (ksM k : Int)) = true := by simp; omega
              have HA := Lib.hid (show askB k t = false by rw [HK0.out]; simp [askB, h4])
              clear hm h4
              generalize (t.kind : Int) = z at ck q4 qn
              generalize (ksM k : Int) = y at cks qn
              go_wp2
              go_ret
              exact ⟨.inl ⟨k, t, rfl, HX.out, by omega, HJ.out, HA.out⟩, rfl⟩
          · have q4 : ((t.kind : Int) == 4) = false := by rw [beq_eq_false_iff_ne]; omega
            by_cases hm : t.kind = ksM k
            · skip
              have qn : (((t.kind : Int) : Int) != (ksM k : Int)) = false := by simp; omega
              by_cases ht : t.text = sBurst
              · have qt : (t.text == [98, 117, 114, 115, 116]) = true := by rw [ht]; rfl
                have HA := Lib.hid (show askB k t = true by rw [HK0.out] at hm ⊢; simp [askB, ht]; exact hm)
                clear hm h4 ht
                generalize (t.kind : Int) = z at ck q4 qn
                generalize (ksM k : Int) = y at cks qn
                go_wp2
                go_roundw
                case rel => exact ⟨k + 1, by omega, by omega, by go_num, rfl, shape_on HJ.out HX.out HA.out⟩
                case measure => simp [intOf]; omega
              · have qt : (t.text == [98, 117, 114, 115, 116]) = false := by rw [beq_eq_false_iff_ne]; exact ht
                have HA := Lib.hid (show askB k t = false by rw [HK0.out]; simp [askB, ht])
                clear hm h4 ht
                generalize (t.kind : Int) = z at ck q4 qn
                generalize (ksM k : Int) = y at cks qn
                go_wp2
                go_ret
                exact ⟨.inl ⟨k, t, rfl, HX.out, by omega, HJ.out, HA.out⟩, rfl⟩
            · skip
              have qn : (((t.kind : Int) : Int) != (ksM k : Int)) = true := by simp; omega
              have HA := Lib.hid (show askB k t = false by rw [HK0.out] at hm ⊢; have hm' : t.kind ≠ 1 := hm; simp [askB, hm'])
              clear hm h4
              generalize (t.kind : Int) = z at ck q4 qn
              generalize (ksM k : Int) = y at cks qn
              go_wp2
              go_ret
              exact ⟨.inl ⟨k, t, rfl, HX.out, by omega, HJ.out, HA.out⟩, rfl⟩
        · have z0 : ((k : Int) == 0) = false := by rw [beq_eq_false_iff_ne]; omega
          have z5 : ((k : Int) == 5) = false := by rw [beq_eq_false_iff_ne]; omega
          have HASK := Lib.hid (askB_plain (t := t) hkK hk0)
          clear hx hk0
          by_cases h4 : t.kind = 4
          · have q4 : ((t.kind : Int) == 4) = true := by rw [h4]; rfl
            by_cases hm : 3 = ksM k
            · skip
              have qn : ((3 : Int) != (ksM k : Int)) = false := by simp; omega
              have HA := Lib.hid (show askB k t = true by rw [HASK.out]; simp [kind', h4]; exact hm)
              clear hm h4
              generalize (t.kind : Int) = z at ck q4 qn
              generalize (ksM k : Int) = y at cks qn
              go_wp2
              go_roundw
              case rel => exact ⟨k + 1, by omega, by omega, by go_num, rfl, shape_on HJ.out HX.out HA.out⟩
              case measure => simp [intOf]; omega
            · skip
              have qn : ((3 : Int) != (ksM k : Int)) = true := by simp; omega
              have HA := Lib.hid (show askB k t = false by rw [HASK.out]; simp [kind', h4]; exact hm)
              clear hm h4
              generalize (t.kind : Int) = z at ck q4 qn
              generalize (ksM k : Int) = y at cks qn
              go_wp2
              go_ret
              exact ⟨.inl ⟨k, t, rfl, HX.out, by omega, HJ.out, HA.out⟩, rfl⟩
          · have q4 : ((t.kind : Int) == 4) = false := by rw [beq_eq_false_iff_ne]; omega
            by_cases hm : t.kind = ksM k
            · skip
              have qn : (((t.kind : Int) : Int) != (ksM k : Int)) = false := by simp; omega
              have HA := Lib.hid (show askB k t = true by rw [HASK.out]; simp [kind', h4]; exact hm)
              clear hm h4
              generalize (t.kind : Int) = z at ck q4 qn
              generalize (ksM k : Int) = y at cks qn
              go_wp2
              go_roundw
              case rel => exact ⟨k + 1, by omega, by omega, by go_num, rfl, shape_on HJ.out HX.out HA.out⟩
              case measure => simp [intOf]; omega
            · skip
              have qn : (((t.kind : Int) : Int) != (ksM k : Int)) = true := by simp; omega
              have HA := Lib.hid (show askB k t = false by rw [HASK.out]; simp [kind', h4]; exact hm)
              clear hm h4
              generalize (t.kind : Int) = z at ck q4 qn
              generalize (ksM k : Int) = y at cks qn
              go_wp2
              go_ret
              exact ⟨.inl ⟨k, t, rfl, HX.out, by omega, HJ.out, HA.out⟩, rfl⟩
      · have t2 : decide ((k : Int) < 3) = false := by simp; omega
        go_wp2
        go_ret
        exact ⟨.inr ⟨rfl, fun j h1 _ => HJ.out j (by omega)⟩, rfl⟩
    · have t1 : decide ((k : Int) < (x.length : Int)) = false := by simp; omega
      have t1' : decide (k < x.length) = false := by simp; omega
      go_wp2
      go_ret
      exact ⟨.inr ⟨rfl, fun j _ h2 => HJ.out j (by omega)⟩, rfl⟩

set_option maxRecDepth 100000 in
set_option maxHeartbeats 8000000 in
theorem shapeT (x : List Tok) (A : Option Addr) (c kb : Nat) {w : World} (hl : x.length ≤ 1000000) (h0 : 0 < x.length) (hT : Toks w A x) (hK : Lies w kb 3 ksT) :
    Calls Try.prog 26 #[.slice A x.length c, .slice (some ⟨kb, 0, none⟩) 13 13] w (Shaped askT 13 x w) := by
  obtain ⟨b, off, rfl, _, hcell⟩ := tok_at hT (List.getElem?_eq_getElem h0)
  have HC := Lib.hid hcell
  have HK := Lib.hid hK
  have k1 : w.cell? ⟨kb, 1, none⟩ = some (.int .i64 1) := (hK.cell 1).trans rfl
  clear hT hcell hK
  go_enter Try.func26, Try.ntmps26
  go_wp2
  go_loopw [5] (fun v W => ShapeRel askT 13 x w v W) (fun v _ => 13 - (intOf v).toNat)
  case atStart => exact ⟨0, Nat.zero_le _, Nat.zero_le _, rfl, rfl, fun j hj => by omega⟩
  case round =>
    obtain ⟨k, hk, hkx, rfl, rfl, hj⟩ := hrel
    have HJ := Lib.hid hj
    clear hj
    by_cases hlx : k < x.length
    · have t1 : decide ((k : Int) < (x.length : Int)) = true := by simp; omega
      by_cases hkK : k < 13
      · have t2 : decide ((k : Int) < 13) = true := by simp; omega
        obtain ⟨t, hx⟩ : ∃ t, x[k]? = some t := ⟨_, List.getElem?_eq_getElem hlx⟩
        have HX := Lib.hid hx
        have ck := (HC.out k t hx).1
        have cks : wr.cell? ⟨kb, k, none⟩ = some (.int .i64 (ksN k : Int)) := (HK.out.cell k).trans (ksT_at hkK)
        by_cases hk0 : k = 0
        · have z0 : ((k : Int) == 0) = true := by rw [hk0]; rfl
          have z5 : ((k : Int) == 5) = false := by rw [hk0]; rfl
          have HK0 := Lib.hid hk0
          have cx : wr.cell? ⟨b, off + 1, none⟩ = some (.string ⟨t.text.toArray⟩) := by have := (HC.out k t hx).2.1; rw [hk0] at this; simpa using this
          clear hx hk0
          by_cases h4 : t.kind = 4
          · have q4 : ((t.kind : Int) == 4) = true := by rw [h4]; rfl
            by_cases hm : 3 = ksN k
            · skip
              have qn : ((3 : Int) != (ksN k : Int)) = false := by simp; omega
              exact absurd hm (by rw [HK0.out]; decide)
            · skip
              have qn : ((3 : Int) != (ksN k : Int)) = true := by simp; omega
              have HA := Lib.hid (show askT k t = false by rw [HK0.out]; simp [askT, kindT, h4])
              clear hm h4
              generalize (t.kind : Int) = z at ck q4 qn
              generalize (ksN k : Int) = y at cks qn
              go_wp2
              go_ret
              exact ⟨.inl ⟨k, t, rfl, HX.out, by omega, HJ.out, HA.out⟩, rfl⟩
          · have q4 : ((t.kind : Int) == 4) = false := by rw [beq_eq_false_iff_ne]; omega
            by_cases hm : t.kind = ksN k
            · skip
              have qn : (((t.kind : Int) : Int) != (ksN k : Int)) = false := by simp; omega
              by_cases ht : t.text = sTask
              · have qt : (t.text == [116, 97, 115, 107]) = true := by rw [ht]; rfl
                have HA := Lib.hid (show askT k t = true by rw [HK0.out] at hm ⊢; simp [askT, kindT, ht]; exact hm)
                clear hm h4 ht
                generalize (t.kind : Int) = z at ck q4 qn
                generalize (ksN k : Int) = y at cks qn
                go_wp2
                go_roundw
                case rel => exact ⟨k + 1, by omega, by omega, by go_num, rfl, shape_on HJ.out HX.out HA.out⟩
                case measure => simp [intOf]; omega
              · have qt : (t.text == [116, 97, 115, 107]) = false := by rw [beq_eq_false_iff_ne]; exact ht
                have HA := Lib.hid (show askT k t = false by rw [HK0.out]; simp [askT, ht])
                clear hm h4 ht
                generalize (t.kind : Int) = z at ck q4 qn
                generalize (ksN k : Int) = y at cks qn
                go_wp2
                go_ret
                exact ⟨.inl ⟨k, t, rfl, HX.out, by omega, HJ.out, HA.out⟩, rfl⟩
            · skip
              have qn : (((t.kind : Int) : Int) != (ksN k : Int)) = true := by simp; omega
              have HA := Lib.hid (show askT k t = false by rw [HK0.out] at hm ⊢; have hm' : t.kind ≠ 1 := hm; simp [askT, kindT, hm'])
              clear hm h4
              generalize (t.kind : Int) = z at ck q4 qn
              generalize (ksN k : Int) = y at cks qn
              go_wp2
              go_ret
              exact ⟨.inl ⟨k, t, rfl, HX.out, by omega, HJ.out, HA.out⟩, rfl⟩
        · have z0 : ((k : Int) == 0) = false := by rw [beq_eq_false_iff_ne]; omega
          by_cases hk5 : k = 5
          · have z5 : ((k : Int) == 5) = true := by rw [hk5]; rfl
            have HK0 := Lib.hid hk5
            have cx : wr.cell? ⟨b, off + 25 + 1, none⟩ = some (.string ⟨t.text.toArray⟩) := by have := (HC.out k t hx).2.1; rw [hk5] at this; simpa using this
            have hx5 : 5 < x.length := by omega
            clear hx hk5
            by_cases h4 : t.kind = 4
            · have q4 : ((t.kind : Int) == 4) = true := by rw [h4]; rfl
              by_cases hm : 3 = ksN k
              · skip
                have qn : ((3 : Int) != (ksN k : Int)) = false := by simp; omega
                exact absurd hm (by rw [HK0.out]; decide)
              · skip
                have qn : ((3 : Int) != (ksN k : Int)) = true := by simp; omega
                have HA := Lib.hid (show askT k t = false by rw [HK0.out]; simp [askT, kindT, h4])
                clear hm h4
                generalize (t.kind : Int) = z at ck q4 qn
                generalize (ksN k : Int) = y at cks qn
                go_wp2
                go_ret
                exact ⟨.inl ⟨k, t, rfl, HX.out, by omega, HJ.out, HA.out⟩, rfl⟩
            · have q4 : ((t.kind : Int) == 4) = false := by rw [beq_eq_false_iff_ne]; omega
              by_cases hm : t.kind = ksN k
              · skip
                have qn : (((t.kind : Int) : Int) != (ksN k : Int)) = false := by simp; omega
                by_cases ht : modeF t.text = 0
                · have KM := Lib.hid (refMode t.text wr)
                  rw [ht] at KM
                  have HA := Lib.hid (show askT k t = false by rw [HK0.out]; simp [askT, ht])
                  clear hm h4 ht
                  generalize (t.kind : Int) = z at ck q4 qn
                  generalize (ksN k : Int) = y at cks qn
                  go_wp2_with (fail)
                  with_reducible refine KM.out.mono ?_
                  rintro e w' ⟨rfl, rfl⟩
                  go_wp2
                  go_ret
                  exact ⟨.inl ⟨k, t, rfl, HX.out, by omega, HJ.out, HA.out⟩, rfl⟩
                · obtain ⟨m, hmm⟩ : ∃ m : Int, m = (modeF t.text : Nat) := ⟨_, rfl⟩
                  have KM := Lib.hid (refMode t.text wr)
                  rw [← hmm] at KM
                  have qm : (m == 0) = false := by rw [beq_eq_false_iff_ne]; omega
                  have HA := Lib.hid (show askT k t = true by rw [HK0.out] at hm ⊢; simp [askT, kindT, ht]; exact hm)
                  clear hmm
                  clear hm h4 ht
                  generalize (t.kind : Int) = z at ck q4 qn
                  generalize (ksN k : Int) = y at cks qn
                  go_wp2_with (fail)
                  with_reducible refine KM.out.mono ?_
                  rintro e w' ⟨rfl, rfl⟩
                  go_wp2
                  go_roundw
                  case rel => exact ⟨k + 1, by omega, by omega, by go_num, rfl, shape_on HJ.out HX.out HA.out⟩
                  case measure => simp [intOf]; omega
              · skip
                have qn : (((t.kind : Int) : Int) != (ksN k : Int)) = true := by simp; omega
                have HA := Lib.hid (show askT k t = false by rw [HK0.out] at hm ⊢; have hm' : t.kind ≠ 1 := hm; simp [askT, kindT, hm'])
                clear hm h4
                generalize (t.kind : Int) = z at ck q4 qn
                generalize (ksN k : Int) = y at cks qn
                go_wp2
                go_ret
                exact ⟨.inl ⟨k, t, rfl, HX.out, by omega, HJ.out, HA.out⟩, rfl⟩
          · have z5 : ((k : Int) == 5) = false := by rw [beq_eq_false_iff_ne]; omega
            have HASK := Lib.hid (askT_plain (t := t) hkK hk0 hk5)
            clear hx hk0 hk5
            by_cases h4 : t.kind = 4
            · have q4 : ((t.kind : Int) == 4) = true := by rw [h4]; rfl
              by_cases hm : 3 = ksN k
              · skip
                have qn : ((3 : Int) != (ksN k : Int)) = false := by simp; omega
                have HA := Lib.hid (show askT k t = true by rw [HASK.out]; simp [kind', h4]; exact hm)
                clear hm h4
                generalize (t.kind : Int) = z at ck q4 qn
                generalize (ksN k : Int) = y at cks qn
                go_wp2
                go_roundw
                case rel => exact ⟨k + 1, by omega, by omega, by go_num, rfl, shape_on HJ.out HX.out HA.out⟩
                case measure => simp [intOf]; omega
              · skip
                have qn : ((3 : Int) != (ksN k : Int)) = true := by simp; omega
                have HA := Lib.hid (show askT k t = false by rw [HASK.out]; simp [kind', h4]; exact hm)
                clear hm h4
                generalize (t.kind : Int) = z at ck q4 qn
                generalize (ksN k : Int) = y at cks qn
                go_wp2
                go_ret
                exact ⟨.inl ⟨k, t, rfl, HX.out, by omega, HJ.out, HA.out⟩, rfl⟩
            · have q4 : ((t.kind : Int) == 4) = false := by rw [beq_eq_false_iff_ne]; omega
              by_cases hm : t.kind = ksN k
              · skip
                have qn : (((t.kind : Int) : Int) != (ksN k : Int)) = false := by simp; omega
                have HA := Lib.hid (show askT k t = true by rw [HASK.out]; simp [kind', h4]; exact hm)
                clear hm h4
                generalize (t.kind : Int) = z at ck q4 qn
                generalize (ksN k : Int) = y at cks qn
                go_wp2
                go_roundw
                case rel => exact ⟨k + 1, by omega, by omega, by go_num, rfl, shape_on HJ.out HX.out HA.out⟩
                case measure => simp [intOf]; omega
              · skip
                have qn : (((t.kind : Int) : Int) != (ksN k : Int)) = true := by simp; omega
                have HA := Lib.hid (show askT k t = false by rw [HASK.out]; simp [kind', h4]; exact hm)
                clear hm h4
                generalize (t.kind : Int) = z at ck q4 qn
                generalize (ksN k : Int) = y at cks qn
                go_wp2
                go_ret
                exact ⟨.inl ⟨k, t, rfl, HX.out, by omega, HJ.out, HA.out⟩, rfl⟩
      · have t2 : decide ((k : Int) < 13) = false := by simp; omega
        go_wp2
        go_ret
        exact ⟨.inr ⟨rfl, fun j h1 _ => HJ.out j (by omega)⟩, rfl⟩
    · have t1 : decide ((k : Int) < (x.length : Int)) = false := by simp; omega
      have t1' : decide (k < x.length) = false := by simp; omega
      go_wp2
      go_ret
      exact ⟨.inr ⟨rfl, fun j _ h2 => HJ.out j (by omega)⟩, rfl⟩
end Go.Proofs.Yteolepmopajamaa
