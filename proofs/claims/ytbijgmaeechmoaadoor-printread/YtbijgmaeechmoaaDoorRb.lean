/- The first line. -/
import Derived.Test.YtbijgmaeechmoaaDoorRa
import Derived.Deep.DeepCutAuto
namespace Go.Proofs.YtbijgmaeechmoaaDoor
open Go.RowKit Lx Kx
set_option maxRecDepth 100000

/-- It says no, and stands at the token that isn't what is asked. -/
def Bad (w0 : World) (g : Nat) (A : Option Addr) (c : Nat) (ts : List Tok) (r : Res) (e : Ending) (w' : World) : Prop :=
  e = .returned (.bool false) ∧ ∃ x k t, Rs w0 g A c ts x k w' ∧ ts[k]? = some t ∧ r = .bad t
def Burst (w0 : World) (g : Nat) (A : Option Addr) (c : Nat) (ts : List Tok) (k : Nat) (e : Ending) (w' : World) : Prop :=
  Bad w0 g A c ts (runB (ts.drop k) []) e w' ∨
  (e = .returned (.bool true) ∧ ∃ k' n, Rd w0 g A c ts k' (n.value : Nat) n [] [] w' ∧ k ≤ k' ∧ runB (ts.drop k) [] = runT n (ts.drop k') [] [] [])

section
variable {w0 w : World} {g : Nat} {A : Option Addr} {c : Nat} {ts : List Tok} {B : Int} {T F : Value} {b t : Tok} {k : Nat}
theorem Rs.burst (h : Rs w0 g A c ts ⟨B, T, b, F⟩ k w) (t : Tok) : Rs w0 g A c ts ⟨B, T, t, F⟩ k (((((w.setCell ⟨g, 4, none⟩ (.int .i64 (t.kind : Nat))).setCell ⟨g, 5, none⟩ (.string ⟨t.text.toArray⟩)).setCell ⟨g, 6, none⟩ (.int .i64 (t.value : Nat))).setCell ⟨g, 7, none⟩ (.int .i64 (t.line : Nat))).setCell ⟨g, 8, none⟩ (.int .i64 (t.col : Nat))) := by
  refine ⟨h.toks, h.ge, h.small, h.cap, h.ends, h.lt, ((((h.below.setCell (p := ⟨g, 4, none⟩) h.ge _).setCell (p := ⟨g, 5, none⟩) h.ge _).setCell (p := ⟨g, 6, none⟩) h.ge _).setCell (p := ⟨g, 7, none⟩) h.ge _).setCell (p := ⟨g, 8, none⟩) h.ge _, ?_⟩
  have := ((((h.lies.here 4 (.int .i64 (t.kind : Nat))).here 5 (.string ⟨t.text.toArray⟩)).here 6 (.int .i64 (t.value : Nat))).here 7 (.int .i64 (t.line : Nat))).here 8 (.int .i64 (t.col : Nat))
  simpa [rdC] using this
theorem turns_burst {u4 u5 u6 u7 u8 : Value} (h : Below w.heap.size w w) : Turns (fun i => i = g) w (((((w.setCell ⟨g, 4, none⟩ u4).setCell ⟨g, 5, none⟩ u5).setCell ⟨g, 6, none⟩ u6).setCell ⟨g, 7, none⟩ u7).setCell ⟨g, 8, none⟩ u8) :=
  ((((((Turns.of_below (S := fun i => i = g) h).setCell (a := ⟨g, 4, none⟩) (.inr rfl) u4).setCell (a := ⟨g, 5, none⟩) (.inr rfl) u5).setCell (a := ⟨g, 6, none⟩) (.inr rfl) u6).setCell (a := ⟨g, 7, none⟩) (.inr rfl) u7).setCell (a := ⟨g, 8, none⟩) (.inr rfl) u8)
end
/-- Burst's number has been read, or not yet. -/
def BNum (w0 : World) (g bs : Nat) (A : Option Addr) (c : Nat) (ts : List Tok) (k : Nat) (B : Int) (T F : Value) (t : Tok) (w : World) (i : Nat) (W : World) : Prop :=
  Rs w0 g A c ts ⟨if i = 0 then B else (t.value : Nat), T, t, F⟩ (k + i) W ∧ Lies W bs 92 #[.pointer (some ⟨g, 2, none⟩)] ∧ Turns (fun i => i = g) w W
theorem bplaced {w0 w : World} {g bs : Nat} {A : Option Addr} {c : Nat} {ts : List Tok} {k : Nat} {B : Int} {T F : Value} {t : Tok} (hbs : bs ≠ g) (hk : ts[k]? = some t) :
    Placed w0 g g bs A c ts k [2] (fun i => ⟨if i = 0 then B else (t.value : Nat), T, t, F⟩) (BNum w0 g bs A c ts k B T F t w) := by
  refine ⟨fun i W h => h.1, fun i W W' h hb => ⟨h.1.on hb, h.2.1.below hb h.2.1.lt, h.2.2.trans (Turns.of_below (S := fun i => i = g) hb) (fun _ _ h => h)⟩, fun i W o h ho => ?_, fun i W o h ho => ?_, fun i W o t' h ho ht h2 => ?_⟩
  · match i, ho with
    | 0, ho =>
      have : (2 : Nat) = o := by simpa using ho
      subst this
      exact (h.2.1.cell 0).trans rfl
  · match i, ho with
    | 0, ho =>
      have : (2 : Nat) = o := by simpa using ho
      subst this
      exact ⟨⟨_, (h.1.lies.cell 2).trans rfl⟩, h.1.lies.thawed 2⟩
  · match i, ho with
    | 0, ho =>
      have : (2 : Nat) = o := by simpa using ho
      subst this
      rw [Nat.add_zero] at ht
      rw [hk] at ht
      cases ht
      have hL := h.1.lies.here 2 (.int .i64 (t.value : Nat))
      refine ⟨(hL.cell 1).trans rfl, hL.thawed 1, ⟨h.1.toks, h.1.ge, h.1.small, h.1.cap, h.1.ends, h.1.ends.next hk (by omega), (h.1.below.setCell (p := ⟨g, 2, none⟩) h.1.ge _).setCell (p := ⟨g, 1, none⟩) h.1.ge _, ?_⟩, (h.2.1.there (a := ⟨g, 2, none⟩) hbs _).there (a := ⟨g, 1, none⟩) hbs _, (h.2.2.setCell (a := ⟨g, 2, none⟩) (.inr rfl) _).setCell (a := ⟨g, 1, none⟩) (.inr rfl) _⟩
      have := hL.here 1 (.int .i64 (((k + 0 : Nat) : Int) + 1))
      simpa [rdC] using this

set_option maxRecDepth 100000 in
set_option maxHeartbeats 4000000 in
theorem burstLine {w0 w : World} {g : Nat} {A : Option Addr} {c : Nat} {ts : List Tok} {k : Nat} {B : Int} {b t : Tok} (h : Rd w0 g A c ts k B b [] [] w) (hk : ts[k]? = some t) (ht : t.kind ≠ 3) :
    Calls Tryd.prog 41 #[.pointer (some ⟨g, 0, none⟩)] w (Burst w0 g A c ts k) := by
  obtain ⟨T, F, hr, hrows⟩ := h
  have hfair := hr.ends.fair t (List.mem_of_getElem? hk)
  have HD := Lib.hid (drop_tok hk)
  by_cases e0 : t.text = sBurst
  · have ha : askB 0 t = true := by rw [hfair.burst]; exact decide_eq_true e0
    have hk1 : t.kind = 1 := by
      simp only [askB, Bool.and_eq_true, decide_eq_true_eq] at ha; exact ha.1
    have KW := Lib.hid (word_yes [98, 117, 114, 115, 116] hr hk e0 (by omega))
    have HA := Lib.hid ha
    have HRW := Lib.hid hrows
    clear hr hrows hk ht hfair e0 ha hk1
    go_enter Tryd.func41, Tryd.ntmps41
    go_wp2_with (fail)
    with_reducible refine KW.out.mono ?_
    rintro e w1 ⟨rfl, h1, ht1⟩
    obtain ⟨t1, hk1, _⟩ := h1.tok
    have H1 := Lib.hid h1
    have HT1 := Lib.hid ht1
    have HK1 := Lib.hid hk1
    have HD1 := Lib.hid (drop_tok hk1)
    have KN := Lib.hid (next h1 hk1)
    clear h1 ht1 hk1
    go_wp2_with (fail)
    with_reducible refine KN.out.mono ?_
    rintro e w2 ⟨rfl, hb⟩
    have H2 := Lib.hid (H1.out.on hb)
    have HT2 := Lib.hid (HT1.out.trans (Turns.of_below (S := fun i => i = g) hb) (fun _ _ h => h))
    have H3 := Lib.hid (H2.out.burst t1)
    have HT3 := Lib.hid (HT2.out.trans (turns_burst (g := g) (u4 := .int .i64 (t1.kind : Nat)) (u5 := .string ⟨t1.text.toArray⟩) (u6 := .int .i64 (t1.value : Nat)) (u7 := .int .i64 (t1.line : Nat)) (u8 := .int .i64 (t1.col : Nat)) (Below.refl _ w2)) (fun _ _ h => h))
    have c4 : w2.cell? ⟨g, 4, none⟩ = some (.int .i64 (b.kind : Nat)) := (H2.out.lies.cell 4).trans rfl
    have c5 : w2.cell? ⟨g, 5, none⟩ = some (.string ⟨b.text.toArray⟩) := (H2.out.lies.cell 5).trans rfl
    have c6 : w2.cell? ⟨g, 6, none⟩ = some (.int .i64 (b.value : Nat)) := (H2.out.lies.cell 6).trans rfl
    have c7 : w2.cell? ⟨g, 7, none⟩ = some (.int .i64 (b.line : Nat)) := (H2.out.lies.cell 7).trans rfl
    have c8 : w2.cell? ⟨g, 8, none⟩ = some (.int .i64 (b.col : Nat)) := (H2.out.lies.cell 8).trans rfl
    have f4 := H2.out.lies.thawed 4
    have f5 := H2.out.lies.thawed 5
    have f6 := H2.out.lies.thawed 6
    have f7 := H2.out.lies.thawed 7
    have f8 := H2.out.lies.thawed 8
    clear hb
    unfold cellsT
    go_upto_region 4 with fail
    generalize hW : ((((w2.setCell ⟨g, 4, none⟩ (.int .i64 (t1.kind : Nat))).setCell ⟨g, 5, none⟩ (.string ⟨t1.text.toArray⟩)).setCell ⟨g, 6, none⟩ (.int .i64 (t1.value : Nat))).setCell ⟨g, 7, none⟩ (.int .i64 (t1.line : Nat))).setCell ⟨g, 8, none⟩ (.int .i64 (t1.col : Nat)) = W at H3 HT3 ⊢
    have hgW := H3.out.lies.lt
    have HM := Lib.hid (show BNum w0 g W.heap.size A c ts (k + 1) B T F t1 w 0 (W.alloc (.cells #[.pointer (some ⟨g, 2, none⟩)] 92)) from
      ⟨H3.out.alloc _, Lies.made _ _ _, HT3.out.trans (Turns.of_below (S := fun i => i = g) (below_new _ _)) (fun _ _ h => h)⟩)
    have KM := Lib.hid (numbersN (cc := 1) (m := 1) (bplaced (by omega) HK1.out) HM.out (by simp) rfl)
    clear hW c4 c5 c6 c7 c8 f4 f5 f6 f7 f8
    go_wp2_with (fail)
    with_reducible refine KM.out.mono ?_
    rintro e w3 ⟨i, hi, rfl, hR, hall, hno⟩
    by_cases hi1 : i = 1
    · subst hi1
      obtain ⟨h4, _, ht4⟩ := hR
      obtain ⟨t', hk', h2⟩ := hall 0 (by omega)
      rw [Nat.add_zero] at hk'
      rw [HK1.out] at hk'
      cases hk'
      obtain ⟨t2, hk2, _⟩ := h4.tok
      have H4 := Lib.hid h4
      have HT4 := Lib.hid ht4
      have HK2 := Lib.hid hk2
      have HQ := Lib.hid (show runB (ts.drop k) [] = runB (ts.drop (k + 1 + 1)) [t, t1] by rw [HD.out, runB_ask0 HA.out, HD1.out, runB_ask1 h2])
      have HD2 := Lib.hid (drop_tok hk2)
      by_cases e3 : t2.kind = 3
      · have KL := Lib.hid (line_yes h4 hk2 e3)
        have HE := Lib.hid e3
        clear hno hall h2 h4 ht4 hk2 e3 hi
        go_wp2_with (fail)
        with_reducible refine KL.out.mono ?_
        rintro e w5 ⟨rfl, h5, ht5⟩
        have H5 := Lib.hid h5
        have HT5 := Lib.hid ht5
        clear h5 ht5
        go_wp2
        go_ret
        refine .inr ⟨rfl, k + 1 + 1 + 1, t1, ⟨T, F, H5.out, HRW.out.turns (HT4.out.trans HT5.out (fun _ _ h => h))⟩, by omega, ?_⟩
        rw [HQ.out, HD2.out, runB_line HE.out]
      · have KL := Lib.hid (line_last h4 hk2 e3)
        have HE := Lib.hid e3
        by_cases e4 : t2.kind = 4
        · rw [decide_eq_true e4] at KL
          have HE4 := Lib.hid e4
          clear hno hall h2 h4 ht4 hk2 e3 e4 hi
          go_wp2_with (fail)
          with_reducible refine KL.out.mono ?_
          rintro e w5 ⟨rfl, h5, ht5⟩
          have H5 := Lib.hid h5
          have HT5 := Lib.hid ht5
          clear h5 ht5
          go_wp2
          go_ret
          refine .inr ⟨rfl, k + 1 + 1, t1, ⟨T, F, H5.out, HRW.out.turns (HT4.out.trans HT5.out (fun _ _ h => h))⟩, by omega, ?_⟩
          rw [HQ.out, HD2.out, runB_last HE4.out, runT_end HE4.out]
        · rw [decide_eq_false e4] at KL
          have HE4 := Lib.hid e4
          clear hno hall h2 h4 ht4 hk2 e3 e4 hi
          go_wp2_with (fail)
          with_reducible refine KL.out.mono ?_
          rintro e w5 ⟨rfl, h5, ht5⟩
          have H5 := Lib.hid h5
          clear h5 ht5
          go_wp2
          go_ret
          exact .inl ⟨rfl, _, k + 1 + 1, t2, H5.out, HK2.out, by rw [HQ.out, HD2.out, runB_bad2 HE.out HE4.out]⟩
    · have hi0 : i = 0 := by omega
      subst hi0
      obtain ⟨h4, _, _⟩ := hR
      obtain ⟨t', hk', h2⟩ := hno (by omega)
      rw [Nat.add_zero] at hk'
      rw [HK1.out] at hk'
      cases hk'
      have H4 := Lib.hid h4
      have HQ := Lib.hid (show runB (ts.drop k) [] = .bad t1 by rw [HD.out, runB_ask0 HA.out, HD1.out, runB_bad1 h2])
      clear hno hall h2 h4 hi hi1
      go_wp2
      go_ret
      exact .inl ⟨rfl, _, k + 1, t1, H4.out, HK1.out, HQ.out⟩
  · have KW := Lib.hid (word_no [98, 117, 114, 115, 116] hr hk e0)
    have HB := Lib.hid (show runB (ts.drop k) [] = .bad t by rw [HD.out]; exact runB_bad0 (by rw [hfair.burst]; exact decide_eq_false e0) ht)
    have HK := Lib.hid hk
    clear hr hrows hk ht hfair e0
    go_enter Tryd.func41, Tryd.ntmps41
    go_wp2_with (fail)
    with_reducible refine KW.out.mono ?_
    rintro e w1 ⟨rfl, h1, ht1⟩
    have H1 := Lib.hid h1
    clear h1 ht1
    go_wp2
    go_ret
    exact .inl ⟨rfl, _, k, t, H1.out, HK.out, HB.out⟩
end Go.Proofs.YtbijgmaeechmoaaDoor
