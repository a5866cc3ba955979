/- The program's set of a text. -/
import Derived.Test.YtbijgmaeechmoaaDoorSd
import Derived.Test.YtbijgmaeechmoaaDoorKWy
namespace Go.Proofs.YtbijgmaeechmoaaDoor
open Go.RowKit Lx Kx
set_option maxRecDepth 100000

/-- It answers a set, in new memory, and a spot. -/
def Parsed (a : Ans) (w : World) (e : Ending) (w' : World) : Prop :=
  ∃ A c, e = .returned (.tuple #[.agg #[.int .i64 a.1.1, .slice A a.1.2.length c], spotV a.2]) ∧ Tasks w' A c a.1.2 ∧ (∀ x, A = some x → w.heap.size ≤ x.block) ∧ Below w.heap.size w w'
theorem len_lex : ∀ (l : List UInt8) (line col : Nat), (lexA l line col).1.length ≤ l.length + 1 := by
  intro l
  induction l using text_rec with
  | nil => intro line col; simp [lexA_nil]
  | word c p q hc hp hq ih =>
    intro line col
    rw [lexA_word hc hp hq]
    have := ih line (col + (p.length + 1))
    simp [cons]; omega
  | num c p q hc hp hq ih =>
    intro line col
    by_cases hv : vals 0 (c :: p) ≤ most
    · rw [lexA_num hc hp hq hv]
      have := ih line (col + (p.length + 1))
      simp [cons]; omega
    · rw [lexA_over hc hp hq hv]; simp
  | blank c q hc ih =>
    intro line col
    rw [lexA_blank hc]
    have := ih line (col + 1)
    simp; omega
  | remark c p q hc hp hq ih =>
    intro line col
    rw [lexA_remark hc hp hq]
    have := ih line (col + (p.length + 1))
    simp; omega
  | line c q hc ih =>
    intro line col
    rw [lexA_line hc]
    have := ih (line + 1) 1
    simp [cons]; omega
  | bad c q h1 h2 h3 h4 h5 => intro line col; rw [lexA_bad h1 h2 h3 h4 h5]; simp
/-- The new reader. -/
theorem newReader {U : World} {A : Option Addr} {c : Nat} {ts : List Tok} (ht : Toks U A ts) (hs : ts.length ≤ 1000000) (hc : ts.length ≤ c) (hf : Fin ts) (h0 : 0 < ts.length) :
    Rd U U.heap.size A c ts 0 0 noT [] [] (U.alloc (.cells #[.slice A ts.length c, .int .i64 0, .int .i64 0, .slice none 0 0, .int .i64 0, .string ⟨#[]⟩, .int .i64 0, .int .i64 0, .int .i64 0, .slice none 0 0] 63)) :=
  ⟨.slice none 0 0, .slice none 0 0, ⟨ht, Nat.le_refl _, hs, hc, hf, h0, below_new _ _, Lies.made _ _ _⟩, World.ownsRow_nil _ _ _ _, World.ownsRow_nil _ _ _ _, (fun e => by cases e), (fun e => by cases e), (fun y e => by cases e)⟩
theorem Rd.on {w0 w w' : World} {g : Nat} {A : Option Addr} {c : Nat} {ts : List Tok} {k : Nat} {B : Int} {b : Tok} {hs : List Tok} {l : List Tk} (h : Rd w0 g A c ts k B b hs l w) (hb : Below w.heap.size w w') : Rd w0 g A c ts k B b hs l w' := by
  obtain ⟨T, F, hr, ho⟩ := h
  exact ⟨T, F, hr.on hb, ho.turns (Turns.of_below hb)⟩
theorem bad1_cases (e : List Tk) (t : Tk) : bad1 e t = 0 ∨ 3 ≤ bad1 e t := by
  unfold bad1
  repeat' split
  all_goals omega
theorem whyG_at : ∀ (r e : List Tk), (whyG e r).1 ≠ 0 → 3 ≤ (whyG e r).1 ∧ ∃ i : Nat, i < r.length ∧ (whyG e r).2 = ((e.length + i : Nat) : Int)
  | [], e, h => by simp [whyG] at h
  | t :: r, e, h => by
    unfold whyG at h ⊢
    by_cases h0 : bad1 e t = 0
    · rw [if_pos h0] at h ⊢
      obtain ⟨h1, i, h2, h3⟩ := whyG_at r (e ++ [t]) h
      refine ⟨h1, i + 1, by simp; omega, ?_⟩
      rw [h3]; simp; omega
    · rw [if_neg h0]
      have := bad1_cases e t
      exact ⟨by simp only; omega, 0, by simp, rfl⟩
theorem why_at {b : Int} {l : List Tk} (h0 : (whyF b l).1 ≠ 0) (h1 : (whyF b l).1 ≠ 1) (h2 : (whyF b l).1 ≠ 2) : ∃ i : Nat, i < l.length ∧ (whyF b l).2 = (i : Int) := by
  unfold whyF at h0 h1 h2 ⊢
  split at h0
  · next hb =>
    split at h0
    · next hl =>
      rw [if_pos hb, if_pos hl]
      obtain ⟨_, i, h3, h4⟩ := whyG_at l [] h0
      exact ⟨i, h3, by rw [h4]; simp⟩
    · next hl => rw [if_pos hb, if_neg hl] at h2; exact absurd rfl h2
  · next hb => rw [if_neg hb] at h1; exact absurd rfl h1
/-- Whatever the reason is: the token that is blamed. -/
theorem blamed {w0 w : World} {g : Nat} {A : Option Addr} {c : Nat} {ts : List Tok} {k : Nat} {B : Int} {n t : Tok} {hs : List Tok} {l : List Tk} {b : Int} (h : Rd w0 g A c ts k B n hs l w) (hk : ts[k]? = some t) (hl : hs.length = l.length) (hh : hs.length ≤ 1000000) (h0 : (whyF b l).1 ≠ 0) :
    Calls Tryd.prog 31 #[.pointer (some ⟨g, 0, none⟩), .int .i64 (whyF b l).1, .int .i64 (whyF b l).2] w (Gives (blameF (whyF b l) n hs t) w) := by
  unfold blameF
  by_cases h1 : (whyF b l).1 = 1
  · rw [if_pos h1, h1]; exact blamed1 _ h
  · rw [if_neg h1]
    by_cases h2 : (whyF b l).1 = 2
    · rw [if_pos h2, h2]
      by_cases h16 : 16 < hs.length
      · rw [if_pos h16]
        have hi : hs[16]? = some hs[16] := List.getElem?_eq_getElem h16
        rw [show hs.getD 16 noT = hs[16] by simp [List.getD, hi]]
        exact blamed16 _ h hh hi
      · rw [if_neg h16]; exact blamedEnd _ h (by omega) hk
    · rw [if_neg h2]
      obtain ⟨i, hi, he⟩ := why_at h0 h1 h2
      have hi' : hs[i]? = some (hs[i]'(by omega)) := List.getElem?_eq_getElem _
      rw [show hs.getD (whyF b l).2.toNat noT = hs[i]'(by omega) by rw [he]; simp [List.getD, hi']]
      exact blamedAt _ i _ he h h1 h2 hh hi'
theorem results_set {fn : Func} (h : fn.results = #[.cell 2 24, .cell 3 37]) (tmps : Array Value) (w : World) (g g' : Nat) (cs cs' : Array Value) (hp : tmps.getD 2 undef = .pointer (some ⟨g, 0, none⟩)) (hq : tmps.getD 3 undef = .pointer (some ⟨g', 0, none⟩)) (hL : Lies w g 24 cs) (hL' : Lies w g' 37 cs') (hs : cs.size = 2) (hs' : cs'.size = 3) :
    (results fn tmps).run Tryd.prog w = .ok (.tuple #[.agg cs, .agg cs']) w := by
  have hp' : tmps[2]?.getD undef = .pointer (some ⟨g, 0, none⟩) := by simpa using hp
  have hq' : tmps[3]?.getD undef = .pointer (some ⟨g', 0, none⟩) := by simpa using hq
  simp [results, h, hp', hq', asAddr, run_loadVar_row (P := Tryd.prog) w g 24 24 cs (0, 0) _ hL Tryd.underlying24 rfl (by rw [hs]; rfl), run_loadVar_row (P := Tryd.prog) w g' 37 37 cs' (0, 0) _ hL' Tryd.underlying37 rfl (by rw [hs']; rfl)]

/-- The world with the two answers stored. -/
def stored (V : World) (r : Nat) (u0 u1 v0 v1 v2 : Value) : World :=
  ((((V.setCell ⟨r, 0, none⟩ u0).setCell ⟨r, 1, none⟩ u1).setCell ⟨r + 1, 0, none⟩ v0).setCell ⟨r + 1, 1, none⟩ v1).setCell ⟨r + 1, 2, none⟩ v2
section
variable {w V : World} {r : Nat} {a b x y z : Value}
theorem stored_set (hA : Lies V r 24 #[a, b]) (u0 u1 v0 v1 v2 : Value) : Lies (stored V r u0 u1 v0 v1 v2) r 24 #[u0, u1] := by
  have := ((((hA.here 0 u0).here 1 u1).there (a := ⟨r + 1, 0, none⟩) (show r ≠ r + 1 by omega) v0).there (a := ⟨r + 1, 1, none⟩) (show r ≠ r + 1 by omega) v1).there (a := ⟨r + 1, 2, none⟩) (show r ≠ r + 1 by omega) v2
  simpa [stored] using this
theorem stored_spot (hC : Lies V (r + 1) 37 #[x, y, z]) (u0 u1 v0 v1 v2 : Value) : Lies (stored V r u0 u1 v0 v1 v2) (r + 1) 37 #[v0, v1, v2] := by
  have := ((((hC.there (a := ⟨r, 0, none⟩) (show r + 1 ≠ r by omega) u0).there (a := ⟨r, 1, none⟩) (show r + 1 ≠ r by omega) u1).here 0 v0).here 1 v1).here 2 v2
  simpa [stored] using this
theorem stored_below {B : Nat} (hB : Below B w V) (hr : B ≤ r) (u0 u1 v0 v1 v2 : Value) : Below B w (stored V r u0 u1 v0 v1 v2) :=
  ((((hB.setCell (p := ⟨r, 0, none⟩) hr u0).setCell (p := ⟨r, 1, none⟩) hr u1).setCell (p := ⟨r + 1, 0, none⟩) (show B ≤ r + 1 by omega) v0).setCell (p := ⟨r + 1, 1, none⟩) (show B ≤ r + 1 by omega) v1).setCell (p := ⟨r + 1, 2, none⟩) (show B ≤ r + 1 by omega) v2
theorem stored_tasks {A : Option Addr} {c : Nat} {l : List Tk} (h : Tasks V A c l) (hA : ∀ x, A = some x → r + 2 ≤ x.block) (u0 u1 v0 v1 v2 : Value) : Tasks (stored V r u0 u1 v0 v1 v2) A c l := by
  refine ⟨h.le, fun h0 => ?_⟩
  obtain ⟨b, off, rfl, hlt, hc⟩ := h.form h0
  have hb : r + 2 ≤ b := hA _ rfl
  have hk : (stored V r u0 u1 v0 v1 v2).heap[b]? = V.heap[b]? := by
    unfold stored
    rw [Below.heap_setCell _ _ _ b (show b ≠ r + 1 by omega), Below.heap_setCell _ _ _ b (show b ≠ r + 1 by omega), Below.heap_setCell _ _ _ b (show b ≠ r + 1 by omega), Below.heap_setCell _ _ _ b (show b ≠ r by omega), Below.heap_setCell _ _ _ b (show b ≠ r by omega)]
  refine ⟨b, off, rfl, by simpa [stored, World.setCell] using hlt, fun i t hi j v hj => ?_⟩
  have := hc i t hi j v hj
  simpa only [World.cell?, hk] using this
end
theorem parsed_zero {a : Ans} {w W : World} {s : Nat × Nat × Nat} (h : a = ((0, []), s)) (hb : Below w.heap.size w W) : Parsed a w (.returned (.tuple #[.agg #[.int .i64 0, .slice none 0 0], .agg #[.int .i64 (s.1 : Int), .int .i64 (s.2.1 : Int), .int .i64 (s.2.2 : Int)]])) W := by
  subst h
  exact ⟨none, 0, rfl, ⟨Nat.le_refl _, (fun h => by cases h)⟩, (fun x hx => by cases hx), hb⟩
/-- What the walk wants of the answers' cells. -/
structure Rooms (V : World) (r : Nat) : Prop where
  s0 : V.cell? ⟨r, 0, none⟩ = some (.int .i64 0)
  s1 : V.cell? ⟨r, 1, none⟩ = some (.slice none 0 0)
  p0 : V.cell? ⟨r + 1, 0, none⟩ = some (.int .i64 0)
  p1 : V.cell? ⟨r + 1, 1, none⟩ = some (.int .i64 0)
  p2 : V.cell? ⟨r + 1, 2, none⟩ = some (.int .i64 0)
  f0 : V.frozen? ⟨r, 0, none⟩ = false
  f1 : V.frozen? ⟨r, 1, none⟩ = false
  g0 : V.frozen? ⟨r + 1, 0, none⟩ = false
  g1 : V.frozen? ⟨r + 1, 1, none⟩ = false
  g2 : V.frozen? ⟨r + 1, 2, none⟩ = false
theorem rooms {V : World} {r : Nat} (hA : Lies V r 24 #[.int .i64 0, .slice none 0 0]) (hC : Lies V (r + 1) 37 #[.int .i64 0, .int .i64 0, .int .i64 0]) : Rooms V r :=
  ⟨(hA.cell 0).trans rfl, (hA.cell 1).trans rfl, (hC.cell 0).trans rfl, (hC.cell 1).trans rfl, (hC.cell 2).trans rfl, hA.thawed 0, hA.thawed 1, hC.thawed 0, hC.thawed 1, hC.thawed 2⟩

set_option maxRecDepth 100000 in
set_option maxHeartbeats 8000000 in
theorem set (l : List UInt8) (a : Option Addr) (cap : Nat) {w : World} (hl : l.length ≤ 100000) (hb : Bytes w a cap l) :
    Calls Tryd.prog 16 #[.slice a l.length cap] w (Parsed (setA l) w) := by
  obtain ⟨W0, hW0⟩ : ∃ W0, W0 = (w.alloc (.cells #[.int .i64 0, .slice none 0 0] 24)).alloc (.cells #[.int .i64 0, .int .i64 0, .int .i64 0] 37) := ⟨_, rfl⟩
  have HW0 := Lib.hid hW0
  have HB0 : Hid (Below w.heap.size w W0) := by rw [hW0]; exact (below_new _ _).alloc (by simp) _
  have HS0 : Hid (W0.heap.size = w.heap.size + 2) := by rw [hW0]; exact (show _ = _ by simp)
  have HA0 : Hid (Lies W0 w.heap.size 24 #[.int .i64 0, .slice none 0 0]) := by rw [hW0]; exact (Lies.made _ _ _).alloc _
  have HC0 := Lib.hid (show Lies W0 (w.heap.size + 1) 37 #[.int .i64 0, .int .i64 0, .int .i64 0] by
    rw [hW0]
    have := Lies.made (w.alloc (.cells #[.int .i64 0, .slice none 0 0] 24)) 37 #[.int .i64 0, .int .i64 0, .int .i64 0]
    simpa using this)
  have KT := Lib.hid (tokens l a cap (by omega) (hb.below (Nat.le_refl _) HB0.out))
  clear hb hW0
  go_enter Tryd.func16, Tryd.ntmps16
  go_upto_region 1 with fail
  rw [← HW0.out]
  go_wp2_with (fail)
  with_reducible refine KT.out.mono ?_
  rintro e w1 ⟨A, c, rfl, hc, htk, hfr, hbl⟩
  have HB1 := Lib.hid (HB0.out.trans (hbl.mono HB0.out.size))
  have HA1 := Lib.hid (HA0.out.below hbl HA0.out.lt)
  have HC1 := Lib.hid (HC0.out.below hbl HC0.out.lt)
  have HT1 := Lib.hid htk
  have HF1 := Lib.hid hfr
  clear htk hfr hbl
  unfold spotV
  by_cases hE : (lex l).2.1 = 0
  · have hans : ans l = (lex l).1 := if_pos hE
    have HANS := Lib.hid (show setA l = ofRes (runB (lex l).1 []) from if_pos hE)
    have hlen : (lex l).1.length ≤ l.length + 1 := len_lex l 1 1
    have hfin := fin_lex hE
    have h0 : 0 < (lex l).1.length := by
      obtain ⟨us, e, h1, _⟩ := last_lex l 1 1 hE
      have h1' : (lex l).1 = us ++ [e] := h1
      rw [h1']; simp
    rw [hE]
    rw [hans] at hc HT1 ⊢
    generalize (lex l).1 = ts at hc HT1 hlen hfin h0 HANS ⊢
    generalize (lex l).2.2.1 = L1
    generalize (lex l).2.2.2 = C1
    have HFIN := Lib.hid hfin
    have HAN := Lib.hid hans
    clear hfin hans hE HAN
    obtain ⟨U, hU⟩ : ∃ U, U = w1.alloc (.cells #[.int .i64 0, .int .i64 (L1 : Int), .int .i64 (C1 : Int)] 37) := ⟨_, rfl⟩
    have HU := Lib.hid hU
    have HTU : Hid (Toks U A ts) := by rw [hU]; exact HT1.out.below (Nat.le_refl _) (below_new _ _)
    have HR0 := Lib.hid (newReader HTU.out (by omega) hc HFIN.out h0)
    obtain ⟨r, hr⟩ : ∃ r, r = w.heap.size := ⟨_, rfl⟩
    have HRR := Lib.hid hr
    have HAU : Hid (Lies U r 24 #[.int .i64 0, .slice none 0 0]) := by rw [hU, hr]; exact HA1.out.alloc _
    have HCU : Hid (Lies U (r + 1) 37 #[.int .i64 0, .int .i64 0, .int .i64 0]) := by rw [hU, hr]; exact HC1.out.alloc _
    have HBU : Hid (Below r w U) := by rw [hU, hr]; exact HB1.out.alloc HB1.out.size _
    have KL := Lib.hid (lines HR0.out)
    have hrU : r + 2 ≤ U.heap.size := by have := HCU.out.lt; omega
    obtain ⟨g, hg⟩ : ∃ g, g = U.heap.size := ⟨_, rfl⟩
    have hg1 : w1.heap.size + 1 = g := by rw [hg, hU]; simp
    rw [← hg] at KL HR0 hrU
    have HG := Lib.hid hg
    clear hU HT1 HA1 HC1 HB1 HF1 HA0 HC0 HB0 HS0 hr hg
    go_upto_region 5 with fail
    rw [← HU.out, ← HRR.out]
    clear hg1
    go_wp2_with (fail)
    with_reducible refine KL.out.mono ?_
    rintro e w2 (⟨rfl, x, k, t, h1, h2, h3⟩ | ⟨rfl, k, n, hs, tl, t, hd, hk, hrun, hhl, hlk⟩)
    · have HR2 := Lib.hid h1
      have HANS2 := Lib.hid (show setA l = spotT 5 t by rw [HANS.out, h3]; rfl)
      have KN := Lib.hid (next h1 h2)
      have KS := Lib.hid (fun w => spotAt t 5 5 rfl w)
      clear h1 h2 h3
      go_wp2_with (fail)
      with_reducible refine KN.out.mono ?_
      rintro e w3 ⟨rfl, hb3⟩
      have HB3 := Lib.hid (HR2.out.below.trans (hb3.mono HR2.out.below.size))
      clear hb3
      go_wp2_with (fail)
      with_reducible refine (KS.out _).mono ?_
      rintro e w4 ⟨rfl, hb4⟩
      have HB4 := Lib.hid (HB3.out.trans (hb4.mono HB3.out.size))
      clear hb4
      have HA4 := Lib.hid (HAU.out.below HB4.out (by rw [← HG.out]; omega))
      have HC4 := Lib.hid (HCU.out.below HB4.out (by rw [← HG.out]; omega))
      have HBB := Lib.hid (HBU.out.trans (HB4.out.mono (by rw [← HG.out]; omega)))
      obtain ⟨s0, s1, p0, p1, p2, f0, f1, g0, g1, g2⟩ := rooms HA4.out HC4.out
      unfold spotV
      go_wp2
      (try simp only [Exit.inBlock, Exit.then])
      refine bodyPost_ret (results_set rfl _ _ r (r + 1) _ _ rfl rfl (stored_set HA4.out (.int .i64 0) (.slice none 0 0) (.int .i64 ((5 : Nat) : Int)) (.int .i64 (t.line : Nat)) (.int .i64 (t.col : Nat))) (stored_spot HC4.out (.int .i64 0) (.slice none 0 0) (.int .i64 ((5 : Nat) : Int)) (.int .i64 (t.line : Nat)) (.int .i64 (t.col : Nat))) rfl rfl) rfl ?_
      refine parsed_zero (s := (5, t.line, t.col)) HANS2.out ?_
      rw [← HRR.out]
      exact stored_below HBB.out (Nat.le_refl _) _ _ _ _ _
    · have hlt := (List.getElem?_eq_some_iff.1 hk).1
      have HD2 := Lib.hid hd
      obtain ⟨T, F, hr2, ho2⟩ := hd
      obtain ⟨AT, cT, rfl, _, hta, hfr⟩ := tasks_own ho2.tasks
      have HTA := Lib.hid hta
      have HFR := Lib.hid hfr
      have HB2 := Lib.hid hr2.below
      have HL2 := Lib.hid hr2.lies
      have c2 : w2.cell? ⟨g, 2, none⟩ = some (.int .i64 (n.value : Nat)) := (HL2.out.cell 2).trans rfl
      have c3 : w2.cell? ⟨g, 3, none⟩ = some (.slice AT tl.length cT) := (HL2.out.cell 3).trans rfl
      have KW := Lib.hid (why (n.value : Nat) tl AT cT (by unfold maxLen; omega) hta)
      have HRUN := Lib.hid hrun
      by_cases h0 : (whyF (n.value : Nat) tl).1 = 0
      · have HANS2 := Lib.hid (show setA l = ((((n.value : Nat) : Int), tl), 0, 0, 0) by rw [HANS.out, hrun]; exact if_pos h0)
        rw [right_eq h0] at KW
        clear hr2 ho2 hta hfr hk hrun h0 hhl hlk
        go_wp2_with (fail)
        with_reducible refine KW.out.mono ?_
        rintro e w3 ⟨rfl, hb3⟩
        have HB3 := Lib.hid (HB2.out.trans (hb3.mono HB2.out.size))
        have HTA3 := Lib.hid (HTA.out.below (Nat.le_refl _) hb3)
        have HL3 := Lib.hid (HL2.out.below hb3 HL2.out.lt)
        have d2 : w3.cell? ⟨g, 2, none⟩ = some (.int .i64 (n.value : Nat)) := (HL3.out.cell 2).trans rfl
        have d3 : w3.cell? ⟨g, 3, none⟩ = some (.slice AT tl.length cT) := (HL3.out.cell 3).trans rfl
        clear hb3
        have HA4 := Lib.hid (HAU.out.below HB3.out (by rw [← HG.out]; omega))
        have HC4 := Lib.hid (HCU.out.below HB3.out (by rw [← HG.out]; omega))
        have HBB := Lib.hid (HBU.out.trans (HB3.out.mono (by rw [← HG.out]; omega)))
        obtain ⟨s0, s1, p0, p1, p2, f0, f1, g0, g1, g2⟩ := rooms HA4.out HC4.out
        go_wp2
        (try simp only [Exit.inBlock, Exit.then])
        refine bodyPost_ret (results_set rfl _ _ r (r + 1) _ _ rfl rfl (stored_set HA4.out (.int .i64 (n.value : Nat)) (.slice AT tl.length cT) (.int .i64 0) (.int .i64 0) (.int .i64 0)) (stored_spot HC4.out (.int .i64 (n.value : Nat)) (.slice AT tl.length cT) (.int .i64 0) (.int .i64 0) (.int .i64 0)) rfl rfl) rfl ?_
        rw [HANS2.out]
        refine ⟨AT, cT, rfl, stored_tasks HTA3.out (fun x hx => by have := HFR.out x hx; rw [← HG.out] at this; omega) _ _ _ _ _, fun x hx => by have := HFR.out x hx; rw [← HG.out] at this; rw [← HRR.out]; omega, ?_⟩
        rw [← HRR.out]
        exact stored_below HBB.out (Nat.le_refl _) _ _ _ _ _
      · have HANS2 := Lib.hid (show setA l = spotT 1 (blameF (whyF (n.value : Nat) tl) n hs t) by rw [HANS.out, hrun]; exact if_neg h0)
        have KB : Hid (∀ w', Below w2.heap.size w2 w' → Calls Tryd.prog 31 #[.pointer (some ⟨g, 0, none⟩), .int .i64 (whyF (n.value : Nat) tl).1, .int .i64 (whyF (n.value : Nat) tl).2] w' (Gives (blameF (whyF (n.value : Nat) tl) n hs t) w')) := fun w' hb =>
          blamed (HD2.out.on hb) hk hhl (by omega) h0
        have q0 : ((whyF (n.value : Nat) tl).1 != 0) = true := by simpa using h0
        generalize blameF (whyF (n.value : Nat) tl) n hs t = t' at KB HANS2
        have KS := Lib.hid (fun w => spotAt t' 1 1 rfl w)
        generalize whyF (n.value : Nat) tl = p at KB KW q0
        clear hr2 ho2 hta hfr hk hrun h0 hhl hlk
        go_wp2_with (fail)
        with_reducible refine KW.out.mono ?_
        rintro e w3 ⟨rfl, hb3⟩
        have HB3 := Lib.hid (HB2.out.trans (hb3.mono HB2.out.size))
        have HX3 := Lib.hid hb3
        clear hb3
        go_wp2_with (fail)
        with_reducible refine (KB.out _ HX3.out).mono ?_
        rintro e w5 ⟨rfl, hb5⟩
        have HB5 := Lib.hid (HB3.out.trans (hb5.mono HB3.out.size))
        clear hb5
        go_wp2_with (fail)
        with_reducible refine (KS.out _).mono ?_
        rintro e w4 ⟨rfl, hb4⟩
        have HB4 := Lib.hid (HB5.out.trans (hb4.mono HB5.out.size))
        clear hb4
        have HA4 := Lib.hid (HAU.out.below HB4.out (by rw [← HG.out]; omega))
        have HC4 := Lib.hid (HCU.out.below HB4.out (by rw [← HG.out]; omega))
        have HBB := Lib.hid (HBU.out.trans (HB4.out.mono (by rw [← HG.out]; omega)))
        obtain ⟨s0, s1, p0, p1, p2, f0, f1, g0, g1, g2⟩ := rooms HA4.out HC4.out
        unfold spotV
        go_wp2
        (try simp only [Exit.inBlock, Exit.then])
        refine bodyPost_ret (results_set rfl _ _ r (r + 1) _ _ rfl rfl (stored_set HA4.out (.int .i64 0) (.slice none 0 0) (.int .i64 ((1 : Nat) : Int)) (.int .i64 (t'.line : Nat)) (.int .i64 (t'.col : Nat))) (stored_spot HC4.out (.int .i64 0) (.slice none 0 0) (.int .i64 ((1 : Nat) : Int)) (.int .i64 (t'.line : Nat)) (.int .i64 (t'.col : Nat))) rfl rfl) rfl ?_
        refine parsed_zero (s := (1, t'.line, t'.col)) HANS2.out ?_
        rw [← HRR.out]
        exact stored_below HBB.out (Nat.le_refl _) _ _ _ _ _
  · have HANS := Lib.hid (show setA l = ((0, []), (lex l).2) from if_neg hE)
    obtain ⟨E, hEe⟩ : ∃ E, E = (lex l).2.1 := ⟨_, rfl⟩
    rw [← hEe] at hE ⊢
    have q : ((E : Int) != 0) = true := by simp; omega
    have HEE := Lib.hid hEe
    clear hEe hE
    generalize hL1 : (lex l).2.2.1 = L1
    generalize hC1 : (lex l).2.2.2 = C1
    have HL1 := Lib.hid hL1
    have HC1' := Lib.hid hC1
    clear hL1 hC1
    go_upto_region 3 with fail
    obtain ⟨r, hr⟩ : ∃ r, r = w.heap.size := ⟨_, rfl⟩
    obtain ⟨s, hs⟩ : ∃ s, s = w1.heap.size := ⟨_, rfl⟩
    have hrs : r + 2 ≤ s := by
      have h1 := HC1.out.lt
      omega
    generalize hV : w1.alloc (.cells #[.int .i64 (E : Int), .int .i64 (L1 : Int), .int .i64 (C1 : Int)] 37) = V
    have HAV : Hid (Lies V r 24 #[.int .i64 0, .slice none 0 0]) := by rw [← hV, hr]; exact HA1.out.alloc _
    have HCV : Hid (Lies V (r + 1) 37 #[.int .i64 0, .int .i64 0, .int .i64 0]) := by rw [← hV, hr]; exact HC1.out.alloc _
    have HXV : Hid (Lies V s 37 #[.int .i64 (E : Int), .int .i64 (L1 : Int), .int .i64 (C1 : Int)]) := by rw [← hV, hs]; exact Lies.made _ _ _
    have HBV : Hid (Below r w V) := by rw [← hV, hr]; exact HB1.out.alloc HB1.out.size _
    obtain ⟨s0, s1, p0, p1, p2, f0, f1, g0, g1, g2⟩ := rooms HAV.out HCV.out
    have x0 : V.cell? ⟨s, 0, none⟩ = some (.int .i64 (E : Int)) := (HXV.out.cell 0).trans rfl
    have x1 : V.cell? ⟨s, 1, none⟩ = some (.int .i64 (L1 : Int)) := (HXV.out.cell 1).trans rfl
    have x2 : V.cell? ⟨s, 2, none⟩ = some (.int .i64 (C1 : Int)) := (HXV.out.cell 2).trans rfl
    have n1 : s ≠ r := by omega
    have n2 : s ≠ r + 1 := by omega
    rw [← hr, ← hs]
    have HRR := Lib.hid hr
    clear hV hr hs
    go_region
    all_goals
      go_wp2
      (try simp only [Exit.inBlock, Exit.then])
      refine bodyPost_ret (results_set rfl _ _ r (r + 1) _ _ rfl rfl ((stored_set HAV.out (.int .i64 0) (.slice none 0 0) (.int .i64 (E : Int)) (.int .i64 (L1 : Int)) (.int .i64 (C1 : Int))).drewN _) ((stored_spot HCV.out (.int .i64 0) (.slice none 0 0) (.int .i64 (E : Int)) (.int .i64 (L1 : Int)) (.int .i64 (C1 : Int))).drewN _) rfl rfl) rfl ?_
      refine parsed_zero (s := (E, L1, C1)) ?_ ?_
      · rw [HANS.out, HEE.out, ← HL1.out, ← HC1'.out]
      · rw [← HRR.out]
        exact below_drewN (stored_below HBV.out (Nat.le_refl _) (.int .i64 0) (.slice none 0 0) (.int .i64 (E : Int)) (.int .i64 (L1 : Int)) (.int .i64 (C1 : Int))) _
end Go.Proofs.YtbijgmaeechmoaaDoor
