/- The statements' own set of a text. -/
import Derived.Test.YteolepmopajamaaSg
import Derived.Test.YteolepmopajamaaLRt
import Derived.Test.YteolepmopajamaaKRx
import Derived.Test.YteolepmopajamaaBt
import Derived.StillTailTactics
namespace Go.Proofs.Yteolepmopajamaa
open Go.RowKit Lx Kx

theorem toks_take {w : World} {A : Option Addr} {ts : List Tok} (h : Toks w A ts) (n : Nat) : Toks w A (ts.take n) := by
  intro h0
  rw [List.length_take] at h0
  obtain ⟨b, off, ha, hlt, hc⟩ := h (by omega)
  refine ⟨b, off, ha, hlt, fun i t hi => hc i t ?_⟩
  rw [List.getElem?_take] at hi
  split at hi
  · exact hi
  · cases hi
theorem toks_drop {w : World} {b off : Nat} {ts : List Tok} (h : Toks w (some ⟨b, off, none⟩) ts) (m : Nat) : Toks w (some ⟨b, off + m * 5, none⟩) (ts.drop m) := by
  intro h0
  rw [List.length_drop] at h0
  obtain ⟨b', off', ha, hlt, hc⟩ := h (by omega)
  cases ha
  refine ⟨b, off + m * 5, rfl, hlt, fun i t hi j v hj => ?_⟩
  rw [List.getElem?_drop] at hi
  have := hc (m + i) t hi j v hj
  rw [show off + m * 5 + i * 5 + j = off + (m + i) * 5 + j by omega]; exact this
theorem toks_nil {w : World} {A : Option Addr} : Toks w A [] := fun h => by simp at h
theorem toks_one {w : World} {g : Nat} {t : Tok} (h : Lies w g 45 (cellsT t).toArray) : Toks w (some ⟨g, 0, none⟩) [t] := fun _ =>
  ⟨g, 0, rfl, h.lt, fun i u hi j v hj => by
    have hi0 : i = 0 := by have := (List.getElem?_eq_some_iff.1 hi).1; simp at this; omega
    subst hi0
    have : t = u := by simpa using hi
    subst this
    rw [h.cell, Nat.zero_mul, Nat.zero_add, ← Array.getElem?_toList]; exact hj⟩
/-- The tokens that are left lie where they lay from the start, or it is the end alone. -/
def Held (U W : World) (A : Option Addr) (rem : List Tok) : Prop := Toks U A rem ∨ (rem.length ≤ 1 ∧ Toks W A rem)
structure Left (U : World) (ts rem : List Tok) (A : Option Addr) (c : Nat) (W : World) : Prop where
  held : Held U W A rem
  cap : rem.length ≤ c
  ended : Ended rem
  fair : ∀ t ∈ rem, Fair t
  size : rem.length ≤ ts.length
  below : Below U.heap.size U W
theorem Left.toks {U W : World} {ts rem : List Tok} {A : Option Addr} {c : Nat} (h : Left U ts rem A c W) : Toks W A rem := by
  rcases h.held with h' | h'
  · exact h'.below (Nat.le_refl _) h.below
  · exact h'.2
def First (U : World) (ts rem : List Tok) (vh vn : Value) (W : World) : Prop :=
  vh = .slice none 0 0 ∧ vn = .int .i64 0 ∧ runB ts [] = runB rem [] ∧ Lies W U.heap.size 26 #[.int .i64 0, .slice none 0 0] ∧ Lies W (U.heap.size + 1) 45 #[.int .i64 0, .string ⟨#[]⟩, .int .i64 0, .int .i64 0, .int .i64 0]
/-- The rows of tasks and of first words, apart from the set and burst's token, and from each other. -/
structure Apart (U : World) (T F : Value) (hs : List Tok) (l : List Tk) (W : World) : Prop where
  tasks : W.ownsRow U.heap.size 40 11 T l.length (flatK l)
  firsts : W.ownsRow U.heap.size 45 5 F hs.length (flatT hs)
  t0 : T.ownBlock ≠ some U.heap.size
  t1 : T.ownBlock ≠ some (U.heap.size + 1)
  f0 : F.ownBlock ≠ some U.heap.size
  f1 : F.ownBlock ≠ some (U.heap.size + 1)
  tf : ∀ y, T.ownBlock = some y → F.ownBlock ≠ some y
theorem Apart.on {U W W' : World} {T F : Value} {hs : List Tok} {l : List Tk} (h : Apart U T F hs l W) (hb : Below W.heap.size W W') : Apart U T F hs l W' :=
  ⟨own_same h.tasks (fun k hk => hb.block k (own_lt h.tasks hk).2), own_same h.firsts (fun k hk => hb.block k (own_lt h.firsts hk).2), h.t0, h.t1, h.f0, h.f1, h.tf⟩
def Later (U : World) (ts rem : List Tok) (vh vn : Value) (W : World) : Prop :=
  ∃ b hs l T, runB ts [] = runT b rem [] hs l ∧ hs.length = l.length ∧ l.length + rem.length ≤ ts.length + 1 ∧ vn = .int .i64 ((hs.length + 1 : Nat) : Int) ∧
    Lies W U.heap.size 26 #[.int .i64 (b.value : Nat), T] ∧ Lies W (U.heap.size + 1) 45 (cellsT b).toArray ∧ Apart U T vh hs l W
theorem why_two {b : Int} {l : List Tk} (h : (whyF b l).1 = 2) : ¬ (1 ≤ l.length ∧ l.length ≤ 16) := fun hl => by
  unfold whyF at h
  by_cases hb : 1 ≤ b ∧ b ≤ 1000
  · rw [if_pos hb, if_pos hl] at h
    have := (whyG_at l [] (by rw [h]; decide)).1
    omega
  · rw [if_neg hb] at h; simp at h
theorem blame_16 {b e th : Tok} {hs : List Tok} {y : Int} (h : hs[16]? = some th) : blameF (2, y) b hs e = th := by
  have hl := (List.getElem?_eq_some_iff.1 h).1
  unfold blameF
  rw [if_neg (show ¬ ((2 : Int), y).1 = 1 from by simp), if_pos rfl, if_pos hl]; simp [List.getD, h]
theorem rem_at {rem : List Tok} {j : Nat} (h : j < rem.length) : rem[j]? = some (rem.getD j noT) := by
  rw [List.getElem?_eq_getElem h]; simp [List.getD, h]
section
variable {U W w1 : World} {T F : Value} {hs : List Tok} {l : List Tk} {A1 : Option Addr} {c1 : Nat}
theorem Apart.more {t : Tok} (h : Apart U T F hs l W) (hW : U.heap.size + 1 < W.heap.size) (hl : LongerT U.heap.size W F (hs.length + 1) (hs ++ [t]) A1 c1 w1) : Apart U T (.slice A1 (hs.length + 1) c1) (hs ++ [t]) l w1 := by
  refine ⟨own_same h.tasks (fun y hy => hl.2.1.block y (own_lt h.tasks hy).2 (fun e => h.tf y hy e.symm)), by rw [List.length_append]; exact hl.1, h.t0, h.t1, ?_, ?_, ?_⟩
  · rcases hl.2.2 with e | e
    · rw [e]; exact h.f0
    · rw [e]; intro e'; have := Option.some.inj e'; omega
  · rcases hl.2.2 with e | e
    · rw [e]; exact h.f1
    · rw [e]; intro e'; have := Option.some.inj e'; omega
  · intro y hy e
    rcases hl.2.2 with h' | h'
    · exact h.tf y hy (by rw [← h']; exact e)
    · rw [h'] at e
      have := (own_lt h.tasks hy).2
      have := Option.some.inj e
      omega
theorem Apart.task {t : Tk} (h : Apart U T F hs l W) (hW : U.heap.size + 1 < W.heap.size) (hl : LongerK U.heap.size W T (l.length + 1) (l ++ [t]) A1 c1 w1) (v : Value) : Apart U (.slice A1 (l.length + 1) c1) F hs (l ++ [t]) (w1.setCell ⟨U.heap.size, 1, none⟩ v) := by
  have n0 : (Value.slice A1 (l.length + 1) c1).ownBlock ≠ some U.heap.size := by
    rcases hl.2.2 with e | e
    · rw [e]; exact h.t0
    · rw [e]; intro e'; have := Option.some.inj e'; omega
  refine ⟨by rw [List.length_append]; exact own_same hl.1 (fun y hy => Below.heap_setCell w1 _ _ y (fun e => n0 (by rw [hy, e]))), own_same h.firsts (fun y hy => ?_), n0, ?_, h.f0, h.f1, ?_⟩
  · rw [Below.heap_setCell w1 _ _ y (fun e => h.f0 (by rw [hy, e])), hl.2.1.block y (own_lt h.firsts hy).2 (fun e => h.tf y e.symm hy)]
  · rcases hl.2.2 with e | e
    · rw [e]; exact h.t1
    · rw [e]; intro e'; have := Option.some.inj e'; omega
  · intro y hy e
    rcases hl.2.2 with h' | h'
    · rw [h'] at hy
      exact h.tf y hy e
    · rw [h'] at hy
      have := (own_lt h.firsts e).2
      have := Option.some.inj hy
      omega
end
def SetRel (U : World) (ts : List Tok) (vl vh vn : Value) (W : World) : Prop :=
  ∃ rem A c, vl = .slice A rem.length c ∧ Left U ts rem A c W ∧ (First U ts rem vh vn W ∨ Later U ts rem vh vn W)
/-- What is left behind a line. -/
def After (U : World) (rem : List Tok) (i : Nat) (s : Value) : Prop := ∃ A2 c2, s = .slice A2 (rem.drop (i + 1)).length c2 ∧ (rem.drop (i + 1)).length ≤ c2 ∧ Toks U A2 (rem.drop (i + 1))
theorem after_none {U : World} {rem : List Tok} {i n m : Nat} {A : Option Addr} (hc : rem.length ≤ i + 1) (hn : n = 0) : After U rem i (.slice A n m) := by
  have e : rem.drop (i + 1) = [] := List.drop_eq_nil_of_le hc
  exact ⟨A, m, by rw [e, hn]; rfl, by rw [e]; exact Nat.zero_le _, by rw [e]; exact toks_nil⟩
theorem after_some {U W : World} {rem : List Tok} {b off i c n m : Nat} (h : Held U W (some ⟨b, off, none⟩) rem) (hc : rem.length ≤ c) (hn : n = rem.length - (i + 1)) (hm : m = c - (i + 1)) : After U rem i (.slice (some ⟨b, off + (i + 1) * 5, none⟩) n m) := by
  rcases h with h | ⟨h1, _⟩
  · exact ⟨_, m, by rw [List.length_drop, hn], by rw [List.length_drop]; omega, toks_drop h (i + 1)⟩
  · exact after_none (by omega) (by omega)
theorem there_five {w : World} {b g : Nat} {t : TypeId} {cs : Array Value} (h : Lies w b t cs) (hb : b ≠ g) (u0 u1 u2 u3 u4 : Value) :
    Lies (((((w.setCell ⟨g, 0, none⟩ u0).setCell ⟨g, 1, none⟩ u1).setCell ⟨g, 2, none⟩ u2).setCell ⟨g, 3, none⟩ u3).setCell ⟨g, 4, none⟩ u4) b t cs :=
  ((((h.there (a := ⟨g, 0, none⟩) hb u0).there (a := ⟨g, 1, none⟩) hb u1).there (a := ⟨g, 2, none⟩) hb u2).there (a := ⟨g, 3, none⟩) hb u3).there (a := ⟨g, 4, none⟩) hb u4
def Cells (W : World) (b off : Nat) (rem : List Tok) : Prop := ∀ j v, rem[j]? = some v →
    W.cell? ⟨b, off + j * 5, none⟩ = some (.int .i64 (v.kind : Nat)) ∧ W.cell? ⟨b, off + j * 5 + 1, none⟩ = some (.string ⟨v.text.toArray⟩) ∧ W.cell? ⟨b, off + j * 5 + 2, none⟩ = some (.int .i64 (v.value : Nat)) ∧ W.cell? ⟨b, off + j * 5 + 3, none⟩ = some (.int .i64 (v.line : Nat)) ∧ W.cell? ⟨b, off + j * 5 + 4, none⟩ = some (.int .i64 (v.col : Nat))
theorem Cells.on {W W' : World} {b off : Nat} {rem : List Tok} (h : Cells W b off rem) (hb : b < W.heap.size) (hB : Below W.heap.size W W') : Cells W' b off rem := fun j v hv => by
  obtain ⟨h0, h1, h2, h3, h4⟩ := h j v hv
  exact ⟨(hB.cell (p := ⟨b, off + j * 5, none⟩) hb).trans h0, (hB.cell (p := ⟨b, off + j * 5 + 1, none⟩) hb).trans h1, (hB.cell (p := ⟨b, off + j * 5 + 2, none⟩) hb).trans h2, (hB.cell (p := ⟨b, off + j * 5 + 3, none⟩) hb).trans h3, (hB.cell (p := ⟨b, off + j * 5 + 4, none⟩) hb).trans h4⟩
theorem cells_of {W : World} {b off : Nat} {rem : List Tok} (h : Toks W (some ⟨b, off, none⟩) rem) (h0 : 0 < rem.length) : Cells W b off rem := by
  obtain ⟨b', off', e, _, hc⟩ := h h0
  cases e
  exact fun j v hj => ⟨hc j v hj 0 _ rfl, hc j v hj 1 _ rfl, hc j v hj 2 _ rfl, hc j v hj 3 _ rfl, hc j v hj 4 _ rfl⟩
def lenV : Value → Nat
  | .slice _ n _ => n
  | _ => 0

set_option maxRecDepth 100000 in
set_option maxHeartbeats 16000000 in
theorem refSet (l : List UInt8) (a : Option Addr) (cap : Nat) {w : World} (hl : l.length ≤ 100000) (hb : Bytes w a cap l) :
    Calls Try.prog 11 #[.slice a l.length cap] w (Parsed (setA l) w) := by
  obtain ⟨W0, hW0⟩ : ∃ W0, W0 = (w.alloc (.cells #[.int .i64 0, .slice none 0 0] 26)).alloc (.cells #[.int .i64 0, .int .i64 0, .int .i64 0] 29) := ⟨_, rfl⟩
  have HW0 := Lib.hid hW0
  have HB0 : Hid (Below w.heap.size w W0) := by rw [hW0]; exact (below_new _ _).alloc (by simp) _
  have HS0 : Hid (W0.heap.size = w.heap.size + 2) := by rw [hW0]; exact (show _ = _ by simp)
  have HA0 : Hid (Lies W0 w.heap.size 26 #[.int .i64 0, .slice none 0 0]) := by rw [hW0]; exact (Lies.made _ _ _).alloc _
  have HC0 := Lib.hid (show Lies W0 (w.heap.size + 1) 29 #[.int .i64 0, .int .i64 0, .int .i64 0] by
    rw [hW0]
    have := Lies.made (w.alloc (.cells #[.int .i64 0, .slice none 0 0] 26)) 29 #[.int .i64 0, .int .i64 0, .int .i64 0]
    simpa using this)
  have KT := Lib.hid (refTokens l a cap (by omega) (hb.below (Nat.le_refl _) HB0.out))
  clear hb hW0
  go_enter Try.func11, Try.ntmps11
  go_upto_region 1 with fail
  rw [← HW0.out]
  go_wp2_with (fail)
  with_reducible refine KT.out.mono ?_
  rintro e w1 ⟨A, c, rfl, hc, htk, hfr, hbl⟩
  have HB1 := Lib.hid (HB0.out.trans (hbl.mono HB0.out.size))
  have HA1 := Lib.hid (HA0.out.below hbl HA0.out.lt)
  have HC1 := Lib.hid (HC0.out.below hbl HC0.out.lt)
  have HT1 := Lib.hid htk
  have HF1 := Lib.hid hfr
  clear htk hfr hbl
  unfold spotV
  by_cases hE : (lex l).2.1 = 0
  · have hans : ans l = (lex l).1 := if_pos hE
    have HANS := Lib.hid (show setA l = ofRes (runB (lex l).1 []) from if_pos hE)
    have hlen : (lex l).1.length ≤ l.length + 1 := len_lex l 1 1
    have hfin := fin_lex hE
    have HEND := Lib.hid (ended_lex hE)
    have h0 : 0 < (lex l).1.length := by
      obtain ⟨us, e, h1, _⟩ := last_lex l 1 1 hE
      have h1' : (lex l).1 = us ++ [e] := h1
      rw [h1']; simp
    rw [hE]
    rw [hans] at hc HT1 ⊢
    generalize (lex l).1 = ts at hc HT1 hlen hfin h0 HANS HEND ⊢
    generalize (lex l).2.2.1 = L1
    generalize (lex l).2.2.2 = C1
    have HFIN := Lib.hid hfin
    have HAN := Lib.hid hans
    clear hfin hans hE HAN
    obtain ⟨U, hU⟩ : ∃ U, U = w1.alloc (.cells #[.int .i64 0, .int .i64 (L1 : Int), .int .i64 (C1 : Int)] 29) := ⟨_, rfl⟩
    have HU := Lib.hid hU
    have HTU : Hid (Toks U A ts) := by rw [hU]; exact HT1.out.below (Nat.le_refl _) (below_new _ _)
    obtain ⟨r, hr⟩ : ∃ r, r = w.heap.size := ⟨_, rfl⟩
    have HRR := Lib.hid hr
    have HAU : Hid (Lies U r 26 #[.int .i64 0, .slice none 0 0]) := by rw [hU, hr]; exact HA1.out.alloc _
    have HCU : Hid (Lies U (r + 1) 29 #[.int .i64 0, .int .i64 0, .int .i64 0]) := by rw [hU, hr]; exact HC1.out.alloc _
    have HBU : Hid (Below r w U) := by rw [hU, hr]; exact HB1.out.alloc HB1.out.size _
    have hrU : r + 2 ≤ U.heap.size := by have := HCU.out.lt; omega
    obtain ⟨Y, hY⟩ : ∃ Y, Y = (U.alloc (.cells #[.int .i64 0, .slice none 0 0] 26)).alloc (.cells #[.int .i64 0, .string ⟨#[]⟩, .int .i64 0, .int .i64 0, .int .i64 0] 45) := ⟨_, rfl⟩
    have HY := Lib.hid hY
    have HUY : Hid (Below U.heap.size U Y) := by rw [hY]; exact (below_new _ _).alloc (by simp) _
    have HYS : Hid (Lies Y U.heap.size 26 #[.int .i64 0, .slice none 0 0]) := by rw [hY]; exact (Lies.made _ _ _).alloc _
    have HYB := Lib.hid (show Lies Y (U.heap.size + 1) 45 #[.int .i64 0, .string ⟨#[]⟩, .int .i64 0, .int .i64 0, .int .i64 0] by
      rw [hY]
      have := Lies.made (U.alloc (.cells #[.int .i64 0, .slice none 0 0] 26)) 45 #[.int .i64 0, .string ⟨#[]⟩, .int .i64 0, .int .i64 0, .int .i64 0]
      simpa using this)
    have HR0 := Lib.hid (show SetRel U ts (.slice A ts.length c) (.slice none 0 0) (.int .i64 0) Y from
      ⟨ts, A, c, rfl, ⟨.inl HTU.out, hc, HEND.out, HFIN.out.fair, Nat.le_refl _, HUY.out⟩, .inl ⟨rfl, rfl, rfl, HYS.out, HYB.out⟩⟩)
    obtain ⟨u, hu⟩ : ∃ u, u = U.heap.size := ⟨_, rfl⟩
    have hu1 : w1.heap.size + 1 = u := by rw [hu, hU]; simp
    have HG := Lib.hid hu
    rw [← hu] at hrU
    clear hU hY HT1 HA1 HC1 HB1 HF1 HA0 HC0 HB0 HS0 hr hu HYS HYB
    go_upto_region 8 with fail
    rw [← HU.out, ← HY.out, ← HRR.out]
    clear hu1
    go_loopw [4, 8, 9] (fun vl vh vn W => SetRel U ts vl vh vn W) (fun vl _ _ _ => lenV vl)
    case atStart => exact HR0.out
    case round =>
      obtain ⟨rem, A1, c1, rfl, hleft, hcase⟩ := hrel
      obtain ⟨i, e, hline⟩ := line_of hleft.ended hleft.fair
      have hilt := hline.lt
      have hsz := hleft.size
      have hcp := hleft.cap
      have t1 : decide ((0 : Int) < (rem.length : Int)) = true := by simp; omega
      have KL := Lib.hid (refLine rem A1 c1 i e (w := wr) (by omega) hleft.cap hleft.toks hline.at_ (by have := hline.ends; omega) (fun j v hj hv => by have := hline.words j v hj hv; omega))
      obtain ⟨b1, off1, rfl, hbw, hcell⟩ := tok_at hleft.toks hline.at_
      obtain ⟨y0, y1, y2, y3, y4⟩ := hcell i e hline.at_
      have HCELL := Lib.hid (show Cells wr b1 off1 rem from hcell)
      have HLINE := Lib.hid hline
      have HLEFT := Lib.hid hleft
      have HCASE := Lib.hid hcase
      clear hleft hcase hline hcell
      go_wp2_with (fail)
      with_reducible refine KL.out.mono ?_
      rintro e' w' ⟨rfl, rfl⟩
      go_upto_region 11 with fail
      obtain ⟨V, hV⟩ : ∃ V, V = wr.alloc (.cells #[.int .i64 (e.kind : Nat), .string ⟨e.text.toArray⟩, .int .i64 (e.value : Nat), .int .i64 (e.line : Nat), .int .i64 (e.col : Nat)] 45) := ⟨_, rfl⟩
      rw [← hV]
      have HWV : Hid (Below wr.heap.size wr V) := by rw [hV]; exact below_new _ _
      have HLA : Hid (Lies V wr.heap.size 45 (cellsT e).toArray) := by rw [hV]; exact Lies.made _ _ _
      obtain ⟨p, hp⟩ : ∃ p, p = wr.heap.size := ⟨_, rfl⟩
      rw [← hp] at HLA ⊢
      have HPE := Lib.hid hp
      clear hV y0 y1 y2 y3 y4 hp KL
      go_cut [4] (fun s wx => After U rem i s ∧ V = wx)
      case first => as_aux_lemma =>
        by_cases hcm : c1 = i + 1
        · subst hcm
          go_wp2
          go_meet
          exact ⟨after_none (by omega) (by omega), rfl⟩
        · go_wp2
          go_meet
          exact ⟨after_some HLEFT.out.held hcp rfl rfl, rfl⟩
      case rest =>
        obtain ⟨haf, rfl⟩ := hcut
        obtain ⟨A2, c2, rfl, hc2, hheld⟩ := haf
        have HHELD := Lib.hid hheld
        have hn2 : (rem.drop (i + 1)).length = rem.length - (i + 1) := List.length_drop
        have HB2 := Lib.hid (HLEFT.out.below.trans (HWV.out.mono HLEFT.out.below.size))
        have HCV := Lib.hid (HCELL.out.on hbw HWV.out)
        clear hheld
        have z0 : V.cell? ⟨p, 0, none⟩ = some (.int .i64 (e.kind : Nat)) := (HLA.out.cell 0).trans rfl
        have z1 : V.cell? ⟨p, 1, none⟩ = some (.string ⟨e.text.toArray⟩) := (HLA.out.cell 1).trans rfl
        have z2 : V.cell? ⟨p, 2, none⟩ = some (.int .i64 (e.value : Nat)) := (HLA.out.cell 2).trans rfl
        have z3 : V.cell? ⟨p, 3, none⟩ = some (.int .i64 (e.line : Nat)) := (HLA.out.cell 3).trans rfl
        have z4 : V.cell? ⟨p, 4, none⟩ = some (.int .i64 (e.col : Nat)) := (HLA.out.cell 4).trans rfl
        rcases HCASE.out with ⟨rfl, rfl, hq, hL6, hL7⟩ | ⟨b, hs, tl, T, hq, hhl, hbnd, rfl, hL6, hL7, hap⟩
        · -- the first line
          have HQ := Lib.hid hq
          have hup : u + 1 < p := by have := hL7.lt; have := HG.out; have := HPE.out; omega
          have HL6 := Lib.hid (hL6.below HWV.out hL6.lt)
          have HL7 := Lib.hid (hL7.below HWV.out hL7.lt)
          rw [← HG.out] at HL6 HL7
          clear hq hL6 hL7 HCASE
          by_cases hskip : i = 0 ∧ e.kind = 3
          · obtain ⟨hi0, hk3⟩ := hskip
            have q1 : ((i : Int) + 1 == 1) = true := by rw [hi0]; rfl
            have q3 : ((e.kind : Int) == 3) = true := by rw [hk3]; rfl
            have q4 : ((e.kind : Int) == 4) = false := by rw [hk3]; rfl
            have HI0 := Lib.hid hi0
            have HK3 := Lib.hid hk3
            clear hi0 hk3
            generalize (e.kind : Int) = z at z0 q3 q4
            go_wp2
            go_roundw
            case rel =>
              have hd : rem = e :: rem.drop 1 := by have := HLINE.out; rw [HI0.out] at this; exact this.cons
              have hE := (ended_at HLEFT.out.ended HLINE.out.at_).2 (by rw [HK3.out]; decide)
              refine ⟨rem.drop (i + 1), A2, c2, by rw [hn2], ⟨.inl HHELD.out, hc2, hE, fun t ht => HLEFT.out.fair t (List.mem_of_mem_drop ht), by omega, HB2.out⟩, .inl ⟨rfl, rfl, ?_, by rw [← HG.out]; exact HL6.out, by rw [← HG.out]; exact HL7.out⟩⟩
              rw [HQ.out, HI0.out]
              rw [hd, runB_skip HK3.out]; rfl
            case measure => simp only [lenV]; omega
          · have HSK := Lib.hid hskip
            go_upto_region 12 with fail
            go_cut [52] (fun s wx => s = .bool false ∧ V = wx)
            case first => as_aux_lemma =>
              by_cases hi0 : i = 0
              · have q1 : ((i : Int) + 1 == 1) = true := by rw [hi0]; rfl
                have q3 : ((e.kind : Int) == 3) = false := by
                  have : e.kind ≠ 3 := fun h => HSK.out ⟨hi0, h⟩
                  rw [beq_eq_false_iff_ne]; omega
                clear hskip hi0
                generalize (e.kind : Int) = z at z0 q3
                go_wp2
                go_meet
                exact ⟨rfl, rfl⟩
              · have q1 : ((i : Int) + 1 == 1) = false := by rw [beq_eq_false_iff_ne]; omega
                clear hskip hi0
                go_wp2
                go_meet
                exact ⟨rfl, rfl⟩
            case rest =>
              obtain ⟨rfl, rfl⟩ := hcut
              clear hskip
              obtain ⟨V3, hV3⟩ : ∃ V3, V3 = (V.alloc (.cells #[.int .i64 1, .int .i64 1, .int .i64 2, .int .i64 2, .int .i64 2, .int .i64 1, .int .i64 2, .int .i64 2, .int .i64 2, .int .i64 2, .int .i64 2, .int .i64 2, .int .i64 3] 3)).alloc (.cells #[.int .i64 1, .int .i64 2, .int .i64 3] 3) := ⟨_, rfl⟩
              have HV3 := Lib.hid hV3
              have HVV : Hid (Below V.heap.size V V3) := by rw [hV3]; exact (below_new _ _).alloc (by simp) _
              have HB3 := Lib.hid (HB2.out.trans (HVV.out.mono HB2.out.size))
              have HW3 := Lib.hid (HWV.out.trans (HVV.out.mono HWV.out.size))
              have HKS := Lib.hid (show Lies V3 (V.heap.size + 1) 3 ksB by
                rw [hV3]
                have := Lies.made (V.alloc (.cells #[.int .i64 1, .int .i64 1, .int .i64 2, .int .i64 2, .int .i64 2, .int .i64 1, .int .i64 2, .int .i64 2, .int .i64 2, .int .i64 2, .int .i64 2, .int .i64 2, .int .i64 3] 3)) 3 ksB
                simpa [ksB] using this)
              have KSH : Hid (Calls Try.prog 26 #[.slice (some ⟨b1, off1, none⟩) (i + 1) c1, .slice (some ⟨V.heap.size + 1, 0, none⟩) 3 3] V3 (Shaped askB 3 (rem.take (i + 1)) V3)) := by
                have := shapeB (rem.take (i + 1)) (some ⟨b1, off1, none⟩) c1 (V.heap.size + 1) (w := V3) (by rw [HLINE.out.len]; omega) (by rw [HLINE.out.len]; omega) (toks_take (HLEFT.out.toks.below (Nat.le_refl _) HW3.out) (i + 1)) HKS.out
                rw [HLINE.out.len] at this
                exact this
              have HC3 := Lib.hid (HCELL.out.on hbw HW3.out)
              have HL63 := Lib.hid (HL6.out.below HVV.out HL6.out.lt)
              have HL73 := Lib.hid (HL7.out.below HVV.out HL7.out.lt)
              have HLA3 := Lib.hid (HLA.out.below HVV.out HLA.out.lt)
              clear hV3 z0 z1 z2 z3 z4
              go_upto_region 28 with fail
              rw [← HV3.out]
              go_wp2_with (fail)
              with_reducible refine KSH.out.mono ?_
              rintro e8 w8 ⟨⟨k, t, rfl, hx, hk3, hj, ha⟩ | ⟨rfl, hj⟩, rfl⟩
              · as_aux_lemma =>
                have hki : k < i + 1 := by have := (List.getElem?_eq_some_iff.1 hx).1; rw [HLINE.out.len] at this; exact this
                rw [take_at hki] at hx
                have HBAD := Lib.hid (lineB_bad hx hk3 (fun j hjk => by
                  obtain ⟨v, hv, hav⟩ := hj j hjk
                  exact ⟨v, by rw [take_at (by omega)] at hv; exact hv, hav⟩) ha (fun hk0 => by
                  subst hk0
                  rcases Nat.eq_zero_or_pos i with hi0 | hi0
                  · have he := HLINE.out.at_
                    rw [hi0, hx] at he
                    cases he
                    exact fun h => HSK.out ⟨hi0, h⟩
                  · have := HLINE.out.words 0 t hi0 hx; omega))
                have HANS2 := Lib.hid (show setA l = spotT 5 t by rw [HANS.out, HQ.out, HBAD.out]; rfl)
                have KS := Lib.hid (fun w => refSpot t 5 5 rfl w)
                unfold cellsT at KS
                obtain ⟨x0, x1, x2, x3, x4⟩ := HC3.out k t hx
                clear hx hj ha hk3
                go_wp2_with (fail)
                with_reducible refine (KS.out _).mono ?_
                rintro e9 w9 ⟨rfl, hb9⟩
                have HB9 := Lib.hid (HB3.out.trans (hb9.mono HB3.out.size))
                clear hb9
                have HA9 := Lib.hid (HAU.out.below HB9.out (by rw [← HG.out]; omega))
                have HC9 := Lib.hid (HCU.out.below HB9.out (by rw [← HG.out]; omega))
                have HBB := Lib.hid (HBU.out.trans (HB9.out.mono (by rw [← HG.out]; omega)))
                obtain ⟨s0, s1, p0, p1, p2, f0, f1, g0, g1, g2⟩ := rooms HA9.out HC9.out
                go_wp2
                refine bodyPost_ret (results_set rfl _ _ r (r + 1) _ _ rfl rfl (stored_set HA9.out (.int .i64 0) (.slice none 0 0) (.int .i64 ((5 : Nat) : Int)) (.int .i64 (t.line : Nat)) (.int .i64 (t.col : Nat))) (stored_spot HC9.out (.int .i64 0) (.slice none 0 0) (.int .i64 ((5 : Nat) : Int)) (.int .i64 (t.line : Nat)) (.int .i64 (t.col : Nat))) rfl rfl) rfl ?_
                refine parsed_zero (s := (5, t.line, t.col)) HANS2.out ?_
                rw [← HRR.out]
                exact stored_below HBB.out (Nat.le_refl _) _ _ _ _ _
              · as_aux_lemma =>
                have hjj : ∀ j, j < 3 → j < i + 1 → ∃ v, rem[j]? = some v ∧ askB j v = true := fun j h1 h2 => by
                  obtain ⟨v, hv, hav⟩ := hj j h1 (by rw [HLINE.out.len]; exact h2)
                  exact ⟨v, by rw [take_at h2] at hv; exact hv, hav⟩
                obtain ⟨hi2, t0, tb, ht0, htb, hr3, hr4⟩ := lineB_good HLINE.out hjj
                have HI2 := Lib.hid hi2
                have hige : 2 ≤ i := by omega
                have hile : i ≤ 2 := by omega
                clear hi2
                have HR3 := Lib.hid hr3
                have HR4 := Lib.hid hr4
                obtain ⟨x0, x1, x2, x3, x4⟩ := HC3.out 1 tb htb
                simp only [Nat.one_mul] at x0 x1 x2 x3 x4
                have m0 : V3.cell? ⟨u, 0, none⟩ = some (.int .i64 0) := (HL63.out.cell 0).trans rfl
                have m1 := HL63.out.thawed 0
                have hbu : b1 ≠ u ∧ b1 ≠ u + 1 := by
                  have h3 : 2 < rem.length := by omega
                  rcases HLEFT.out.held with h | h
                  · obtain ⟨b', off', e', hlt', _⟩ := h (by omega)
                    cases e'
                    have := HG.out
                    omega
                  · omega
                obtain ⟨hb1u, hb1u1⟩ := hbu
                have HX1 := Lib.hid (HL63.out.here 0 (.int .i64 (tb.value : Nat)))
                have HX2 := Lib.hid (HL73.out.there (a := ⟨u, 0, none⟩) (show u + 1 ≠ u by omega) (.int .i64 (tb.value : Nat)))
                have HXC : Hid (∀ off', (V3.setCell ⟨u, 0, none⟩ (.int .i64 (tb.value : Nat))).cell? ⟨b1, off', none⟩ = V3.cell? ⟨b1, off', none⟩) := fun off' => by
                  simp only [World.cell?, Below.heap_setCell V3 ⟨u, 0, none⟩ (.int .i64 (tb.value : Nat)) b1 hb1u]
                go_upto_region 33 with fail
                obtain ⟨V4, hV4⟩ : ∃ V4, V4 = V3.setCell ⟨u, 0, none⟩ (.int .i64 (tb.value : Nat)) := ⟨_, rfl⟩
                rw [← hV4] at HX1 HX2 HXC ⊢
                have y0 := (HXC.out _).trans x0
                have y1 := (HXC.out _).trans x1
                have y2 := (HXC.out _).trans x2
                have y3 := (HXC.out _).trans x3
                have y4 := (HXC.out _).trans x4
                have j0 : V4.cell? ⟨u + 1, 0, none⟩ = some (.int .i64 0) := (HX2.out.cell 0).trans rfl
                have j1 : V4.cell? ⟨u + 1, 1, none⟩ = some (.string ⟨#[]⟩) := (HX2.out.cell 1).trans rfl
                have j2 : V4.cell? ⟨u + 1, 2, none⟩ = some (.int .i64 0) := (HX2.out.cell 2).trans rfl
                have j3 : V4.cell? ⟨u + 1, 3, none⟩ = some (.int .i64 0) := (HX2.out.cell 3).trans rfl
                have j4 : V4.cell? ⟨u + 1, 4, none⟩ = some (.int .i64 0) := (HX2.out.cell 4).trans rfl
                have k0 := HX2.out.thawed 0
                have k1 := HX2.out.thawed 1
                have k2 := HX2.out.thawed 2
                have k3 := HX2.out.thawed 3
                have k4 := HX2.out.thawed 4
                have HBV4 : Hid (Below U.heap.size U V4) := by rw [hV4]; exact HB3.out.setCell (p := ⟨u, 0, none⟩) (by rw [HG.out]; exact Nat.le_refl _) _
                have HLA4 : Hid (Lies V4 p 45 (cellsT e).toArray) := by rw [hV4]; exact HLA3.out.there (a := ⟨u, 0, none⟩) (show p ≠ u by omega) _
                have HF5 := Lib.hid (lies_five HX2.out (.int .i64 (tb.kind : Nat)) (.string ⟨tb.text.toArray⟩) (.int .i64 (tb.value : Nat)) (.int .i64 (tb.line : Nat)) (.int .i64 (tb.col : Nat)))
                have HB5 := Lib.hid (below_five HBV4.out (show U.heap.size ≤ u + 1 by rw [HG.out]; omega) (.int .i64 (tb.kind : Nat)) (.string ⟨tb.text.toArray⟩) (.int .i64 (tb.value : Nat)) (.int .i64 (tb.line : Nat)) (.int .i64 (tb.col : Nat)))
                have HS5 := Lib.hid (there_five HX1.out (show u ≠ u + 1 by omega) (.int .i64 (tb.kind : Nat)) (.string ⟨tb.text.toArray⟩) (.int .i64 (tb.value : Nat)) (.int .i64 (tb.line : Nat)) (.int .i64 (tb.col : Nat)))
                have HA5 := Lib.hid (there_five HLA4.out (show p ≠ u + 1 by omega) (.int .i64 (tb.kind : Nat)) (.string ⟨tb.text.toArray⟩) (.int .i64 (tb.value : Nat)) (.int .i64 (tb.line : Nat)) (.int .i64 (tb.col : Nat)))
                clear hV4 x0 x1 x2 x3 x4 m0 m1 hj hjj ht0 htb hr3 hr4 HXC
                go_upto_region 36 with fail
                obtain ⟨V5, hV5⟩ : ∃ V5, V5 = ((((V4.setCell ⟨u + 1, 0, none⟩ (.int .i64 (tb.kind : Nat))).setCell ⟨u + 1, 1, none⟩ (.string ⟨tb.text.toArray⟩)).setCell ⟨u + 1, 2, none⟩ (.int .i64 (tb.value : Nat))).setCell ⟨u + 1, 3, none⟩ (.int .i64 (tb.line : Nat))).setCell ⟨u + 1, 4, none⟩ (.int .i64 (tb.col : Nat)) := ⟨_, rfl⟩
                rw [← hV5] at HF5 HB5 HS5 HA5 ⊢
                clear hV5 y0 y1 y2 y3 y4 j0 j1 j2 j3 j4 k0 k1 k2 k3 k4
                have z0 : V5.cell? ⟨p, 0, none⟩ = some (.int .i64 (e.kind : Nat)) := (HA5.out.cell 0).trans rfl
                have z1 : V5.cell? ⟨p, 1, none⟩ = some (.string ⟨e.text.toArray⟩) := (HA5.out.cell 1).trans rfl
                have z2 : V5.cell? ⟨p, 2, none⟩ = some (.int .i64 (e.value : Nat)) := (HA5.out.cell 2).trans rfl
                have z3 : V5.cell? ⟨p, 3, none⟩ = some (.int .i64 (e.line : Nat)) := (HA5.out.cell 3).trans rfl
                have z4 : V5.cell? ⟨p, 4, none⟩ = some (.int .i64 (e.col : Nat)) := (HA5.out.cell 4).trans rfl
                have HLT : Hid (∀ W', Below V5.heap.size V5 W' → ∀ rem', runB ts [] = runT tb rem' [] [] [] → 0 + rem'.length ≤ ts.length + 1 → Later U ts rem' (.slice none 0 0) (.int .i64 1) W') := fun W' hW' rem' h1 h2 =>
                  ⟨tb, [], [], .slice none 0 0, h1, rfl, h2, rfl, by rw [← HG.out]; exact (show Lies W' u 26 #[.int .i64 (tb.value : Nat), .slice none 0 0] from (by simpa using HS5.out.below hW' HS5.out.lt)), by rw [← HG.out]; exact HF5.out.below hW' HF5.out.lt, World.ownsRow_nil _ _ _ _, World.ownsRow_nil _ _ _ _, (fun h => by cases h), (fun h => by cases h), (fun h => by cases h), (fun h => by cases h), (fun y h => by cases h)⟩
                rcases HLINE.out.ends with hk3 | hk4
                · have q4 : ((e.kind : Int) == 4) = false := by rw [hk3]; rfl
                  have HK3 := Lib.hid hk3
                  clear hk3
                  generalize (e.kind : Int) = z at z0 q4
                  go_wp2
                  go_roundw
                  case rel =>
                    have hE := (ended_at HLEFT.out.ended HLINE.out.at_).2 (by rw [HK3.out]; decide)
                    refine ⟨rem.drop (i + 1), A2, c2, by rw [hn2], ⟨.inl HHELD.out, hc2, hE, fun t ht => HLEFT.out.fair t (List.mem_of_mem_drop ht), by omega, HB5.out⟩, .inr (HLT.out V5 (Below.refl _ _) _ ?_ (by omega))⟩
                    rw [HQ.out, HR3.out HK3.out, HI2.out]
                  case measure => simp only [lenV]; omega
                · have q4 : ((e.kind : Int) == 4) = true := by rw [hk4]; rfl
                  have HK4 := Lib.hid hk4
                  clear hk4
                  have HTK : Hid (Toks (V5.alloc (.cells #[.int .i64 (e.kind : Nat), .string ⟨e.text.toArray⟩, .int .i64 (e.value : Nat), .int .i64 (e.line : Nat), .int .i64 (e.col : Nat)] 45)) (some ⟨V5.heap.size, 0, none⟩) [e]) := toks_one (Lies.made _ _ _)
                  have HLT2 := Lib.hid (HLT.out _ (below_new V5 (.cells #[.int .i64 (e.kind : Nat), .string ⟨e.text.toArray⟩, .int .i64 (e.value : Nat), .int .i64 (e.line : Nat), .int .i64 (e.col : Nat)] 45)) [e] (by rw [HQ.out, HR4.out HK4.out]) (by simp))
                  have HFE := Lib.hid (HLEFT.out.fair e (List.mem_of_getElem? HLINE.out.at_))
                  have HBE := Lib.hid (HB5.out.alloc HB5.out.size (.cells #[.int .i64 (e.kind : Nat), .string ⟨e.text.toArray⟩, .int .i64 (e.value : Nat), .int .i64 (e.line : Nat), .int .i64 (e.col : Nat)] 45))
                  have h1r : 1 < rem.length := by omega
                  go_upto_region 37 with fail
                  go_wp2_with (refine wpList_build_tok rfl (.tmp 185) rfl (.int .i64 (e.kind : Nat)) (.string ⟨e.text.toArray⟩) (.int .i64 (e.value : Nat)) (.int .i64 (e.line : Nat)) (.int .i64 (e.col : Nat)) (by rfl) ?_)
                  go_roundw
                  case rel => exact ⟨[e], some ⟨V5.heap.size, 0, none⟩, 1, rfl, ⟨.inr ⟨Nat.le_refl _, HTK.out⟩, Nat.le_refl _, .inl ⟨HK4.out, rfl⟩, fun t ht => by rw [List.mem_singleton.1 ht]; exact HFE.out, (show 1 ≤ ts.length by omega), HBE.out⟩, .inr HLT2.out⟩
                  case measure => simp only [lenV]; omega
        · -- a later line
          have HQ := Lib.hid hq
          have hup : u + 1 < p := by have := hL7.lt; have := HG.out; have := HPE.out; omega
          have HL6 := Lib.hid (hL6.below HWV.out hL6.lt)
          have HL7 := Lib.hid (hL7.below HWV.out hL7.lt)
          rw [← HG.out] at HL6 HL7
          have HAP := Lib.hid (hap.on HWV.out)
          have HFP : Hid (u8.ownBlock ≠ some p) := fun h => by have := (own_lt hap.firsts h).2; have := HPE.out; omega
          have HTP : Hid (T.ownBlock ≠ some p) := fun h => by have := (own_lt hap.tasks h).2; have := HPE.out; omega
          obtain ⟨AF, cF, hF, _, _⟩ := own_form hap.firsts
          subst hF
          obtain ⟨AT, cT, hT, _, htk, hfr⟩ := tasks_own hap.tasks
          subst hT
          have HTKV := Lib.hid (htk.below (Nat.le_refl _) HWV.out)
          have HFR := Lib.hid hfr
          clear hq hL6 hL7 hap htk hfr HCASE
          have HHL := Lib.hid hhl
          have hh1 : hs.length ≤ tl.length := by omega
          have hh2 : tl.length ≤ hs.length := by omega
          clear hhl
          obtain ⟨N, hN⟩ : ∃ N, N = hs.length + 1 := ⟨_, rfl⟩
          rw [← hN]
          have HN := Lib.hid hN
          have hNb : N ≤ 1000001 := by omega
          have hN1 : 1 ≤ N := by omega
          have n0 : ((N : Int) == 0) = false := by rw [beq_eq_false_iff_ne]; omega
          have n1 : ((N : Int) + 1 == 1) = false := by rw [beq_eq_false_iff_ne]; omega
          have n2 : decide ((0 : Int) < (N : Int)) = true := by simp; omega
          have n2' : decide (0 < N) = true := by simp; omega
          clear hN
          by_cases hi0 : i = 0
          · by_cases hk3 : e.kind = 3
            · have q1 : ((i : Int) + 1 == 1) = true := by rw [hi0]; rfl
              have q3 : ((e.kind : Int) == 3) = true := by rw [hk3]; rfl
              have q4 : ((e.kind : Int) == 4) = false := by rw [hk3]; rfl
              have HI0 := Lib.hid hi0
              have HK3 := Lib.hid hk3
              clear hi0 hk3
              generalize (e.kind : Int) = z at z0 q3 q4
              go_wp2
              go_roundw
              case rel =>
                have hd : rem = e :: rem.drop 1 := by have := HLINE.out; rw [HI0.out] at this; exact this.cons
                have hE := (ended_at HLEFT.out.ended HLINE.out.at_).2 (by rw [HK3.out]; decide)
                refine ⟨rem.drop (i + 1), A2, c2, by rw [hn2], ⟨.inl HHELD.out, hc2, hE, fun t ht => HLEFT.out.fair t (List.mem_of_mem_drop ht), by omega, HB2.out⟩, .inr ⟨b, hs, tl, .slice AT tl.length cT, ?_, HHL.out, by omega, by rw [HN.out], by rw [← HG.out]; exact HL6.out, by rw [← HG.out]; exact HL7.out, HAP.out⟩⟩
                rw [HQ.out, HI0.out]
                rw [hd, runT_skip HK3.out]; rfl
              case measure => simp only [lenV]; omega
            · as_aux_lemma =>
              have q1 : ((i : Int) + 1 == 1) = true := by rw [hi0]; rfl
              have hk4 : e.kind = 4 := by have := HLINE.out.ends; omega
              have q3 : ((e.kind : Int) == 3) = false := by rw [hk4]; rfl
              have q4 : ((e.kind : Int) == 4) = true := by rw [hk4]; rfl
              have HD : Hid (runB ts [] = .done b hs tl e) := by
                have hd : rem = e :: rem.drop 1 := by have := HLINE.out; rw [hi0] at this; exact this.cons
                rw [HQ.out, hd, runT_end hk4]; exact (rfl : _ = _)
              have hcap := HTKV.out.le
              have KW := Lib.hid (refWhy (b.value : Nat) tl AT cT (w := V) (by unfold maxLen; omega) HTKV.out)
              have c0 : V.cell? ⟨u, 0, none⟩ = some (.int .i64 (b.value : Nat)) := (HL6.out.cell 0).trans rfl
              have c1 : V.cell? ⟨u, 1, none⟩ = some (.slice AT tl.length cT) := (HL6.out.cell 1).trans rfl
              clear hi0 hk3 hk4
              by_cases h0 : (whyF (b.value : Nat) tl).1 = 0
              · have HANS2 := Lib.hid (show setA l = ((((b.value : Nat) : Int), tl), 0, 0, 0) by rw [HANS.out, HD.out]; exact if_pos h0)
                rw [right_eq h0] at KW
                clear h0
                generalize (e.kind : Int) = z at z0 q3 q4
                go_wp2_with (fail)
                with_reducible refine KW.out.mono ?_
                rintro e7 w5 ⟨rfl, hb5⟩
                have HB5 := Lib.hid (HB2.out.trans (hb5.mono HB2.out.size))
                have HTA3 := Lib.hid (HTKV.out.below (Nat.le_refl _) hb5)
                have HL65 := Lib.hid (HL6.out.below hb5 HL6.out.lt)
                have d0 : w5.cell? ⟨u, 0, none⟩ = some (.int .i64 (b.value : Nat)) := (HL65.out.cell 0).trans rfl
                have d1 : w5.cell? ⟨u, 1, none⟩ = some (.slice AT tl.length cT) := (HL65.out.cell 1).trans rfl
                clear hb5 c0 c1
                have HA9 := Lib.hid (HAU.out.below HB5.out (by rw [← HG.out]; omega))
                have HC9 := Lib.hid (HCU.out.below HB5.out (by rw [← HG.out]; omega))
                have HBB := Lib.hid (HBU.out.trans (HB5.out.mono (by rw [← HG.out]; omega)))
                obtain ⟨s0, s1, p0, p1, p2, f0, f1, g0, g1, g2⟩ := rooms HA9.out HC9.out
                go_wp2
                refine bodyPost_ret (results_set rfl _ _ r (r + 1) _ _ rfl rfl (stored_set HA9.out (.int .i64 (b.value : Nat)) (.slice AT tl.length cT) (.int .i64 0) (.int .i64 0) (.int .i64 0)) (stored_spot HC9.out (.int .i64 (b.value : Nat)) (.slice AT tl.length cT) (.int .i64 0) (.int .i64 0) (.int .i64 0)) rfl rfl) rfl ?_
                rw [HANS2.out]
                refine ⟨AT, cT, rfl, stored_tasks HTA3.out (fun x hx => by have := HFR.out x hx; rw [← HG.out] at this; omega) _ _ _ _ _, fun x hx => by have := HFR.out x hx; rw [← HG.out] at this; rw [← HRR.out]; omega, ?_⟩
                rw [← HRR.out]
                exact stored_below HBB.out (Nat.le_refl _) _ _ _ _ _
              · have HANS1 := Lib.hid (show setA l = spotT 1 (blameF (whyF (b.value : Nat) tl) b hs e) by rw [HANS.out, HD.out]; exact if_neg h0)
                have HWA := Lib.hid (fun h1 h2 => why_at (b := (b.value : Nat)) (l := tl) h0 h1 h2)
                have HWC := Lib.hid (fun h => why_two (b := (b.value : Nat)) (l := tl) h)
                generalize whyF (b.value : Nat) tl = pw at KW HANS1 h0 HWA HWC
                obtain ⟨px, py⟩ := pw
                have h0' : px ≠ 0 := h0
                have r0 : (px == 0) = false := by simp [h0']
                clear h0
                generalize hzz : (e.kind : Int) = z at z0 q3 q4
                have HZZ := Lib.hid hzz
                clear hzz
                go_wp2_with (fail)
                with_reducible refine KW.out.mono ?_
                rintro e7 w5 ⟨rfl, hb5⟩
                have HB5 := Lib.hid (HB2.out.trans (hb5.mono HB2.out.size))
                have HL75 := Lib.hid (HL7.out.below hb5 HL7.out.lt)
                have HLA5 := Lib.hid (HLA.out.below hb5 HLA.out.lt)
                have HAP5 := Lib.hid (HAP.out.on hb5)
                clear hb5 c0 c1 z0 z1 z2 z3 z4 q3 q4
                by_cases h1 : px = 1
                · have HANS2 := Lib.hid (show setA l = spotT 1 b by rw [HANS1.out]; simp [blameF, h1])
                  have r1 : (px == 1) = true := by simp [h1]
                  clear h1 h0'
                  have KS := Lib.hid (fun w => refSpot b 1 1 rfl w)
                  unfold cellsT at KS
                  have x0 : w5.cell? ⟨u + 1, 0, none⟩ = some (.int .i64 (b.kind : Nat)) := (HL75.out.cell 0).trans rfl
                  have x1 : w5.cell? ⟨u + 1, 1, none⟩ = some (.string ⟨b.text.toArray⟩) := (HL75.out.cell 1).trans rfl
                  have x2 : w5.cell? ⟨u + 1, 2, none⟩ = some (.int .i64 (b.value : Nat)) := (HL75.out.cell 2).trans rfl
                  have x3 : w5.cell? ⟨u + 1, 3, none⟩ = some (.int .i64 (b.line : Nat)) := (HL75.out.cell 3).trans rfl
                  have x4 : w5.cell? ⟨u + 1, 4, none⟩ = some (.int .i64 (b.col : Nat)) := (HL75.out.cell 4).trans rfl
                  go_wp2_with (fail)
                  with_reducible refine (KS.out _).mono ?_
                  rintro e9 w9 ⟨rfl, hb9⟩
                  have HB9 := Lib.hid (HB5.out.trans (hb9.mono HB5.out.size))
                  clear hb9
                  have HA9 := Lib.hid (HAU.out.below HB9.out (by rw [← HG.out]; omega))
                  have HC9 := Lib.hid (HCU.out.below HB9.out (by rw [← HG.out]; omega))
                  have HBB := Lib.hid (HBU.out.trans (HB9.out.mono (by rw [← HG.out]; omega)))
                  obtain ⟨s0, s1, p0, p1, p2, f0, f1, g0, g1, g2⟩ := rooms HA9.out HC9.out
                  go_wp2
                  refine bodyPost_ret (results_set rfl _ _ r (r + 1) _ _ rfl rfl (stored_set HA9.out (.int .i64 0) (.slice none 0 0) (.int .i64 ((1 : Nat) : Int)) (.int .i64 (b.line : Nat)) (.int .i64 (b.col : Nat))) (stored_spot HC9.out (.int .i64 0) (.slice none 0 0) (.int .i64 ((1 : Nat) : Int)) (.int .i64 (b.line : Nat)) (.int .i64 (b.col : Nat))) rfl rfl) rfl ?_
                  refine parsed_zero (s := (1, b.line, b.col)) HANS2.out ?_
                  rw [← HRR.out]
                  exact stored_below HBB.out (Nat.le_refl _) _ _ _ _ _
                · have r1 : (px == 1) = false := by simp [h1]
                  by_cases h2 : px = 2
                  · have r2 : (px == 2) = true := by simp [h2]
                    have hnot := HWC.out h2
                    by_cases hz : hs.length = 0
                    · have HANS2 := Lib.hid (show setA l = spotT 1 e by rw [HANS1.out]; simp [blameF, h2, hz])
                      have rz : ((hs.length : Int) == 0) = true := by rw [hz]; rfl
                      clear h1 h0' h2 hnot hz
                      have KS := Lib.hid (fun w => refSpot e 1 1 rfl w)
                      unfold cellsT at KS
                      have x0 : w5.cell? ⟨p, 0, none⟩ = some (.int .i64 (e.kind : Nat)) := (HLA5.out.cell 0).trans rfl
                      have x1 : w5.cell? ⟨p, 1, none⟩ = some (.string ⟨e.text.toArray⟩) := (HLA5.out.cell 1).trans rfl
                      have x2 : w5.cell? ⟨p, 2, none⟩ = some (.int .i64 (e.value : Nat)) := (HLA5.out.cell 2).trans rfl
                      have x3 : w5.cell? ⟨p, 3, none⟩ = some (.int .i64 (e.line : Nat)) := (HLA5.out.cell 3).trans rfl
                      have x4 : w5.cell? ⟨p, 4, none⟩ = some (.int .i64 (e.col : Nat)) := (HLA5.out.cell 4).trans rfl
                      go_wp2_with (fail)
                      with_reducible refine (KS.out _).mono ?_
                      rintro e9 w9 ⟨rfl, hb9⟩
                      have HB9 := Lib.hid (HB5.out.trans (hb9.mono HB5.out.size))
                      clear hb9
                      have HA9 := Lib.hid (HAU.out.below HB9.out (by rw [← HG.out]; omega))
                      have HC9 := Lib.hid (HCU.out.below HB9.out (by rw [← HG.out]; omega))
                      have HBB := Lib.hid (HBU.out.trans (HB9.out.mono (by rw [← HG.out]; omega)))
                      obtain ⟨s0, s1, p0, p1, p2, f0, f1, g0, g1, g2⟩ := rooms HA9.out HC9.out
                      go_wp2
                      refine bodyPost_ret (results_set rfl _ _ r (r + 1) _ _ rfl rfl (stored_set HA9.out (.int .i64 0) (.slice none 0 0) (.int .i64 ((1 : Nat) : Int)) (.int .i64 (e.line : Nat)) (.int .i64 (e.col : Nat))) (stored_spot HC9.out (.int .i64 0) (.slice none 0 0) (.int .i64 ((1 : Nat) : Int)) (.int .i64 (e.line : Nat)) (.int .i64 (e.col : Nat))) rfl rfl) rfl ?_
                      refine parsed_zero (s := (1, e.line, e.col)) HANS2.out ?_
                      rw [← HRR.out]
                      exact stored_below HBB.out (Nat.le_refl _) _ _ _ _ _
                    · have h16 : 16 < hs.length := by omega
                      have hx16 : hs[16]? = some hs[16] := List.getElem?_eq_getElem h16
                      obtain ⟨th, hth⟩ : ∃ th, th = hs[16] := ⟨_, rfl⟩
                      rw [← hth] at hx16
                      have HANS2 := Lib.hid (show setA l = spotT 1 th by rw [HANS1.out, h2, blame_16 hx16])
                      have rz : ((hs.length : Int) == 0) = false := by rw [beq_eq_false_iff_ne]; omega
                      obtain ⟨A5, c5, e5, _, _, htk5, _⟩ := Toks.own HAP5.out.firsts
                      cases e5
                      obtain ⟨bb, oo, rfl, _, hcc⟩ := row_cells htk5 hx16
                      have x0 : w5.cell? ⟨bb, oo + 80, none⟩ = some (.int .i64 (th.kind : Nat)) := hcc 0 _ rfl
                      have x1 : w5.cell? ⟨bb, oo + 80 + 1, none⟩ = some (.string ⟨th.text.toArray⟩) := hcc 1 _ rfl
                      have x2 : w5.cell? ⟨bb, oo + 80 + 2, none⟩ = some (.int .i64 (th.value : Nat)) := hcc 2 _ rfl
                      have x3 : w5.cell? ⟨bb, oo + 80 + 3, none⟩ = some (.int .i64 (th.line : Nat)) := hcc 3 _ rfl
                      have x4 : w5.cell? ⟨bb, oo + 80 + 4, none⟩ = some (.int .i64 (th.col : Nat)) := hcc 4 _ rfl
                      clear h1 h0' h2 hnot hz hx16 hth htk5 hcc
                      have KS := Lib.hid (fun w => refSpot th 1 1 rfl w)
                      unfold cellsT at KS
                      go_wp2_with (fail)
                      with_reducible refine (KS.out _).mono ?_
                      rintro e9 w9 ⟨rfl, hb9⟩
                      have HB9 := Lib.hid (HB5.out.trans (hb9.mono HB5.out.size))
                      clear hb9
                      have HA9 := Lib.hid (HAU.out.below HB9.out (by rw [← HG.out]; omega))
                      have HC9 := Lib.hid (HCU.out.below HB9.out (by rw [← HG.out]; omega))
                      have HBB := Lib.hid (HBU.out.trans (HB9.out.mono (by rw [← HG.out]; omega)))
                      obtain ⟨s0, s1, p0, p1, p2, f0, f1, g0, g1, g2⟩ := rooms HA9.out HC9.out
                      go_wp2
                      refine bodyPost_ret (results_set rfl _ _ r (r + 1) _ _ rfl rfl (stored_set HA9.out (.int .i64 0) (.slice none 0 0) (.int .i64 ((1 : Nat) : Int)) (.int .i64 (th.line : Nat)) (.int .i64 (th.col : Nat))) (stored_spot HC9.out (.int .i64 0) (.slice none 0 0) (.int .i64 ((1 : Nat) : Int)) (.int .i64 (th.line : Nat)) (.int .i64 (th.col : Nat))) rfl rfl) rfl ?_
                      refine parsed_zero (s := (1, th.line, th.col)) HANS2.out ?_
                      rw [← HRR.out]
                      exact stored_below HBB.out (Nat.le_refl _) _ _ _ _ _
                  · have r2 : (px == 2) = false := by simp [h2]
                    obtain ⟨j, hjl, hje⟩ := HWA.out h1 h2
                    have hjl' : j < hs.length := by omega
                    have hxj : hs[j]? = some hs[j] := List.getElem?_eq_getElem hjl'
                    obtain ⟨th, hth⟩ : ∃ th, th = hs[j] := ⟨_, rfl⟩
                    rw [← hth] at hxj
                    have hje' : py = (j : Int) := hje
                    have HANS2 := Lib.hid (show setA l = spotT 1 th by rw [HANS1.out]; simp [blameF, h1, h2, hje', List.getD, hxj])
                    subst hje'
                    obtain ⟨A5, c5, e5, _, _, htk5, _⟩ := Toks.own HAP5.out.firsts
                    cases e5
                    obtain ⟨bb, oo, rfl, _, hcc⟩ := row_cells htk5 hxj
                    have x0 : w5.cell? ⟨bb, oo + j * 5, none⟩ = some (.int .i64 (th.kind : Nat)) := hcc 0 _ rfl
                    have x1 : w5.cell? ⟨bb, oo + j * 5 + 1, none⟩ = some (.string ⟨th.text.toArray⟩) := hcc 1 _ rfl
                    have x2 : w5.cell? ⟨bb, oo + j * 5 + 2, none⟩ = some (.int .i64 (th.value : Nat)) := hcc 2 _ rfl
                    have x3 : w5.cell? ⟨bb, oo + j * 5 + 3, none⟩ = some (.int .i64 (th.line : Nat)) := hcc 3 _ rfl
                    have x4 : w5.cell? ⟨bb, oo + j * 5 + 4, none⟩ = some (.int .i64 (th.col : Nat)) := hcc 4 _ rfl
                    clear h1 h0' h2 hxj hth htk5 hcc hje
                    have KS := Lib.hid (fun w => refSpot th 1 1 rfl w)
                    unfold cellsT at KS
                    go_wp2_with (fail)
                    with_reducible refine (KS.out _).mono ?_
                    rintro e9 w9 ⟨rfl, hb9⟩
                    have HB9 := Lib.hid (HB5.out.trans (hb9.mono HB5.out.size))
                    clear hb9
                    have HA9 := Lib.hid (HAU.out.below HB9.out (by rw [← HG.out]; omega))
                    have HC9 := Lib.hid (HCU.out.below HB9.out (by rw [← HG.out]; omega))
                    have HBB := Lib.hid (HBU.out.trans (HB9.out.mono (by rw [← HG.out]; omega)))
                    obtain ⟨s0, s1, p0, p1, p2, f0, f1, g0, g1, g2⟩ := rooms HA9.out HC9.out
                    go_wp2
                    refine bodyPost_ret (results_set rfl _ _ r (r + 1) _ _ rfl rfl (stored_set HA9.out (.int .i64 0) (.slice none 0 0) (.int .i64 ((1 : Nat) : Int)) (.int .i64 (th.line : Nat)) (.int .i64 (th.col : Nat))) (stored_spot HC9.out (.int .i64 0) (.slice none 0 0) (.int .i64 ((1 : Nat) : Int)) (.int .i64 (th.line : Nat)) (.int .i64 (th.col : Nat))) rfl rfl) rfl ?_
                    refine parsed_zero (s := (1, th.line, th.col)) HANS2.out ?_
                    rw [← HRR.out]
                    exact stored_below HBB.out (Nat.le_refl _) _ _ _ _ _
          · have q1 : ((i : Int) + 1 == 1) = false := by rw [beq_eq_false_iff_ne]; omega
            obtain ⟨V3, hV3⟩ : ∃ V3, V3 = V.alloc (.cells #[.int .i64 1, .int .i64 1, .int .i64 2, .int .i64 2, .int .i64 2, .int .i64 1, .int .i64 2, .int .i64 2, .int .i64 2, .int .i64 2, .int .i64 2, .int .i64 2, .int .i64 3] 3) := ⟨_, rfl⟩
            have HV3 := Lib.hid hV3
            have HVV : Hid (Below V.heap.size V V3) := by rw [hV3]; exact below_new _ _
            have HB3 := Lib.hid (HB2.out.trans (HVV.out.mono HB2.out.size))
            have HW3 := Lib.hid (HWV.out.trans (HVV.out.mono HWV.out.size))
            have HKS : Hid (Lies V3 V.heap.size 3 ksT) := by rw [hV3]; exact Lies.made _ _ _
            have KSH : Hid (Calls Try.prog 26 #[.slice (some ⟨b1, off1, none⟩) (i + 1) c1, .slice (some ⟨V.heap.size, 0, none⟩) 13 13] V3 (Shaped askT 13 (rem.take (i + 1)) V3)) := by
              have := shapeT (rem.take (i + 1)) (some ⟨b1, off1, none⟩) c1 V.heap.size (w := V3) (by rw [HLINE.out.len]; omega) (by rw [HLINE.out.len]; omega) (toks_take (HLEFT.out.toks.below (Nat.le_refl _) HW3.out) (i + 1)) HKS.out
              rw [HLINE.out.len] at this
              exact this
            have HC3 := Lib.hid (HCELL.out.on hbw HW3.out)
            have HL63 := Lib.hid (HL6.out.below HVV.out HL6.out.lt)
            have HL73 := Lib.hid (HL7.out.below HVV.out HL7.out.lt)
            have HLA3 := Lib.hid (HLA.out.below HVV.out HLA.out.lt)
            clear hV3 z0 z1 z2 z3 z4
            go_upto_region 28 with fail
            rw [← HV3.out]
            go_wp2_with (fail)
            with_reducible refine KSH.out.mono ?_
            rintro e8 w8 ⟨⟨k, t, rfl, hx, hk3, hj, ha⟩ | ⟨rfl, hj⟩, rfl⟩
            · as_aux_lemma =>
              have hki : k < i + 1 := by have := (List.getElem?_eq_some_iff.1 hx).1; rw [HLINE.out.len] at this; exact this
              rw [take_at hki] at hx
              have HBAD := Lib.hid (lineT_bad (b := b) (hs := hs) (l := tl) hx hk3 (fun j hjk => by
                obtain ⟨v, hv, hav⟩ := hj j hjk
                exact ⟨v, by rw [take_at (by omega)] at hv; exact hv, hav⟩) ha (fun hk0 => by
                subst hk0
                have := HLINE.out.words 0 t (by omega) hx; omega))
              have HANS2 := Lib.hid (show setA l = spotT 5 t by rw [HANS.out, HQ.out, HBAD.out]; rfl)
              have KS := Lib.hid (fun w => refSpot t 5 5 rfl w)
              unfold cellsT at KS
              obtain ⟨x0, x1, x2, x3, x4⟩ := HC3.out k t hx
              clear hx hj ha hk3
              go_wp2_with (fail)
              with_reducible refine (KS.out _).mono ?_
              rintro e9 w9 ⟨rfl, hb9⟩
              have HB9 := Lib.hid (HB3.out.trans (hb9.mono HB3.out.size))
              clear hb9
              have HA9 := Lib.hid (HAU.out.below HB9.out (by rw [← HG.out]; omega))
              have HC9 := Lib.hid (HCU.out.below HB9.out (by rw [← HG.out]; omega))
              have HBB := Lib.hid (HBU.out.trans (HB9.out.mono (by rw [← HG.out]; omega)))
              obtain ⟨s0, s1, p0, p1, p2, f0, f1, g0, g1, g2⟩ := rooms HA9.out HC9.out
              go_wp2
              refine bodyPost_ret (results_set rfl _ _ r (r + 1) _ _ rfl rfl (stored_set HA9.out (.int .i64 0) (.slice none 0 0) (.int .i64 ((5 : Nat) : Int)) (.int .i64 (t.line : Nat)) (.int .i64 (t.col : Nat))) (stored_spot HC9.out (.int .i64 0) (.slice none 0 0) (.int .i64 ((5 : Nat) : Int)) (.int .i64 (t.line : Nat)) (.int .i64 (t.col : Nat))) rfl rfl) rfl ?_
              refine parsed_zero (s := (5, t.line, t.col)) HANS2.out ?_
              rw [← HRR.out]
              exact stored_below HBB.out (Nat.le_refl _) _ _ _ _ _
            · as_aux_lemma =>
              have hjj : ∀ j, j < 13 → j < i + 1 → ∃ v, rem[j]? = some v ∧ askT j v = true := fun j h1 h2 => by
                obtain ⟨v, hv, hav⟩ := hj j h1 (by rw [HLINE.out.len]; exact h2)
                exact ⟨v, by rw [take_at h2] at hv; exact hv, hav⟩
              obtain ⟨hi12, hr3, hr4⟩ := lineT_good (b := b) (hs := hs) (l := tl) HLINE.out hjj
              have HR3 := Lib.hid hr3
              have HR4 := Lib.hid hr4
              have HI12 := Lib.hid hi12
              have hige : 12 ≤ i := by omega
              have hile : i ≤ 12 := by omega
              have hrl : 12 < rem.length := by omega
              have HTU1 : Hid (Toks U (some ⟨b1, off1, none⟩) rem) := by
                rcases HLEFT.out.held with h | h
                · exact h
                · exact absurd h.1 (by omega)
              obtain ⟨t0, ht0⟩ : ∃ t0, t0 = rem.getD 0 noT := ⟨_, rfl⟩
              have HT0 := Lib.hid ht0
              obtain ⟨x0, x1, x2, x3, x4⟩ := HC3.out 0 t0 (by rw [ht0]; exact rem_at (by omega))
              simp only [Nat.zero_mul, Nat.add_zero] at x0 x1 x2 x3 x4
              have HAP3 := Lib.hid ((HAP.out.on HVV.out).on (below_new V3 (.cells #[.int .i64 (t0.kind : Nat), .string ⟨t0.text.toArray⟩, .int .i64 (t0.value : Nat), .int .i64 (t0.line : Nat), .int .i64 (t0.col : Nat)] 45)))
              have hU3 : U.heap.size ≤ V3.heap.size := HB3.out.size
              have hhs : hs.length ≤ 1000000 := by omega
              have hll : tl.length ≤ 1000000 := by omega
              clear hi12 hj hjj hr3 hr4 ht0
              go_upto_region 34 with fail
              go_wp2_with (first
                | (refine wpList_build_tok rfl (.tmp 128) rfl (.int .i64 (t0.kind : Nat)) (.string ⟨t0.text.toArray⟩) (.int .i64 (t0.value : Nat)) (.int .i64 (t0.line : Nat)) (.int .i64 (t0.col : Nat)) (by rfl) ?_)
                | (at_builtin; refine Hid.out ?_))
              refine Lib.hid ?_
              refine wpList_append_tok rfl (.tmp 125) (.tmp 129) rfl U.heap.size hs.length 1 (hs.length + 1) V3.heap.size (.slice AF hs.length cF) hs t0 rfl rfl HAP3.out.firsts (Lies.made _ _ _) rfl hhs (by simp; omega) ?_
              intro A3 c3 w4 hl4
              have HL4 := Lib.hid hl4
              clear hl4
              have hug : u = U.heap.size := HG.out
              have HB4 := Lib.hid (Below.grown (HB3.out.alloc HB3.out.size (.cells #[.int .i64 (t0.kind : Nat), .string ⟨t0.text.toArray⟩, .int .i64 (t0.value : Nat), .int .i64 (t0.line : Nat), .int .i64 (t0.col : Nat)] 45)) HL4.out.2.1 (by simp; omega) (fun k hk => (own_lt HAP3.out.firsts hk).1))
              have h1V3 : U.heap.size + 1 < V3.heap.size := by have := HL73.out.lt; omega
              have HAP4 := Lib.hid (HAP3.out.more (by simp; omega) HL4.out)
              have HL64 := Lib.hid (lies_longerT (HL63.out.alloc _) HL4.out (by rw [hug]; exact HAP3.out.f0))
              have HL74 := Lib.hid (lies_longerT (HL73.out.alloc _) HL4.out (by rw [hug]; exact HAP3.out.f1))
              have HLA4 := Lib.hid (lies_longerT (HLA3.out.alloc _) HL4.out HFP.out)
              have HC4 := Lib.hid (cells_of (HTU1.out.below (Nat.le_refl _) HB4.out) (by omega))
              have h1w4 : U.heap.size + 1 < w4.heap.size := by have := HL74.out.lt; omega
              have HUG := Lib.hid hug
              clear hug x0 x1 x2 x3 x4
              obtain ⟨q, hq⟩ : ∃ q, q = taskOf rem := ⟨_, rfl⟩
              obtain ⟨t5, ht5⟩ : ∃ t5, t5 = (rem.getD 5 noT).text := ⟨_, rfl⟩
              have k1 : w4.cell? ⟨b1, off1 + 5 + 1, none⟩ = some (.string q.name) := by rw [hq]; exact (HC4.out 1 _ (rem_at (by omega))).2.1
              have k2 : w4.cell? ⟨b1, off1 + 10 + 2, none⟩ = some (.int .i64 q.T) := by rw [hq]; exact (HC4.out 2 _ (rem_at (by omega))).2.2.1
              have k3 : w4.cell? ⟨b1, off1 + 15 + 2, none⟩ = some (.int .i64 q.D) := by rw [hq]; exact (HC4.out 3 _ (rem_at (by omega))).2.2.1
              have k4 : w4.cell? ⟨b1, off1 + 20 + 2, none⟩ = some (.int .i64 q.C) := by rw [hq]; exact (HC4.out 4 _ (rem_at (by omega))).2.2.1
              have k5 : w4.cell? ⟨b1, off1 + 25 + 1, none⟩ = some (.string ⟨t5.toArray⟩) := by rw [ht5]; exact (HC4.out 5 _ (rem_at (by omega))).2.1
              have k6 : w4.cell? ⟨b1, off1 + 30 + 2, none⟩ = some (.int .i64 q.A) := by rw [hq]; exact (HC4.out 6 _ (rem_at (by omega))).2.2.1
              have k7 : w4.cell? ⟨b1, off1 + 35 + 2, none⟩ = some (.int .i64 q.Seg) := by rw [hq]; exact (HC4.out 7 _ (rem_at (by omega))).2.2.1
              have k8 : w4.cell? ⟨b1, off1 + 40 + 2, none⟩ = some (.int .i64 q.Cost) := by rw [hq]; exact (HC4.out 8 _ (rem_at (by omega))).2.2.1
              have k9 : w4.cell? ⟨b1, off1 + 45 + 2, none⟩ = some (.int .i64 q.M) := by rw [hq]; exact (HC4.out 9 _ (rem_at (by omega))).2.2.1
              have k10 : w4.cell? ⟨b1, off1 + 50 + 2, none⟩ = some (.int .i64 q.K) := by rw [hq]; exact (HC4.out 10 _ (rem_at (by omega))).2.2.1
              have k11 : w4.cell? ⟨b1, off1 + 55 + 2, none⟩ = some (.int .i64 q.Prio) := by rw [hq]; exact (HC4.out 11 _ (rem_at (by omega))).2.2.1
              have KM : Hid (∀ w, Calls Try.prog 15 #[.string ⟨t5.toArray⟩] w (Says (.int .i64 q.Mode) w)) := fun w => by rw [hq, ht5]; exact refMode _ w
              have HQT := Lib.hid hq
              clear hq ht5
              have d3 : w4.cell? ⟨u, 1, none⟩ = some (.slice AT tl.length cT) := (HL64.out.cell 1).trans rfl
              have f3 := HL64.out.thawed 1
              have gAl : ∀ o, (w4.alloc o).cell? ⟨u, 1, none⟩ = some (.slice AT tl.length cT) := fun o => ((HL64.out.alloc o).cell 1).trans rfl
              have hb1U : b1 < U.heap.size := by
                obtain ⟨b', off', e', hlt', _⟩ := HTU1.out (by omega)
                cases e'; exact hlt'
              obtain ⟨X, hX⟩ : ∃ X, X = w4.drew := ⟨_, rfl⟩
              have HX := Lib.hid hX
              have HWX : Hid (Below U.heap.size w4 X) := by rw [hX]; exact below_drewN (Below.refl _ _) 1
              have h4s : U.heap.size ≤ w4.heap.size := HB4.out.size
              have HX4 : Hid (Below w4.heap.size w4 X) := by rw [hX]; exact below_drewN (Below.refl _ _) 1
              have hXs : U.heap.size ≤ X.heap.size := Nat.le_trans h4s HX4.out.size
              have hXw : w4.heap.size ≤ X.heap.size := HX4.out.size
              have HXX := Lib.hid (Below.refl U.heap.size X)
              have HXN := Lib.hid ((Below.refl U.heap.size X).alloc hXs (.cells (boxC q) 40))
              have HXS := Lib.hid (Nat.le_trans hXs HXN.out.size)
              have KP : Hid (∀ w', Below U.heap.size X w' → w'.cell? ⟨b1, off1 + 5 + 1, none⟩ = some (.string q.name) ∧ w'.cell? ⟨b1, off1 + 10 + 2, none⟩ = some (.int .i64 q.T) ∧ w'.cell? ⟨b1, off1 + 15 + 2, none⟩ = some (.int .i64 q.D) ∧ w'.cell? ⟨b1, off1 + 20 + 2, none⟩ = some (.int .i64 q.C) ∧ w'.cell? ⟨b1, off1 + 25 + 1, none⟩ = some (.string ⟨t5.toArray⟩) ∧ w'.cell? ⟨b1, off1 + 30 + 2, none⟩ = some (.int .i64 q.A) ∧ w'.cell? ⟨b1, off1 + 35 + 2, none⟩ = some (.int .i64 q.Seg) ∧ w'.cell? ⟨b1, off1 + 40 + 2, none⟩ = some (.int .i64 q.Cost) ∧ w'.cell? ⟨b1, off1 + 45 + 2, none⟩ = some (.int .i64 q.M) ∧ w'.cell? ⟨b1, off1 + 50 + 2, none⟩ = some (.int .i64 q.K) ∧ w'.cell? ⟨b1, off1 + 55 + 2, none⟩ = some (.int .i64 q.Prio)) := fun w' hw' => by
                have h : ∀ k, w'.cell? ⟨b1, k, none⟩ = w4.cell? ⟨b1, k, none⟩ := fun k => (hw'.cell (p := ⟨b1, k, none⟩) hb1U).trans (HWX.out.cell (p := ⟨b1, k, none⟩) hb1U)
                exact ⟨(h _).trans k1, (h _).trans k2, (h _).trans k3, (h _).trans k4, (h _).trans k5, (h _).trans k6, (h _).trans k7, (h _).trans k8, (h _).trans k9, (h _).trans k10, (h _).trans k11⟩
              have HUle : Hid (U.heap.size ≤ u) := by rw [HUG.out]; exact Nat.le_refl _
              have HL6X := Lib.hid (HL64.out.below HX4.out HL64.out.lt)
              have d4 : X.cell? ⟨u, 1, none⟩ = some (.slice AT tl.length cT) := (HL6X.out.cell 1).trans rfl
              have d5 : (X.alloc (.cells (boxC q) 40)).cell? ⟨u, 1, none⟩ = some (.slice AT tl.length cT) := ((HL6X.out.alloc _).cell 1).trans rfl
              have HRT : Hid (Apart U (.slice AT tl.length cT) (.slice A3 (hs.length + 1) c3) (hs ++ [t0]) tl (X.alloc (.cells (boxC q) 40))) := (HAP4.out.on HX4.out).on (below_new _ _)
              have HRL : Hid (Lies (X.alloc (.cells (boxC q) 40)) u 26 #[.int .i64 (b.value : Nat), .slice AT tl.length cT]) := HL6X.out.alloc _
              have HBX : Hid (Below U.heap.size U (X.alloc (.cells (boxC q) 40))) := HB4.out.trans (HWX.out.trans HXN.out)
              have HL7X : Hid (Lies (X.alloc (.cells (boxC q) 40)) (u + 1) 45 (cellsT b).toArray) := (HL74.out.below HX4.out HL74.out.lt).alloc _
              have HLAX : Hid (Lies (X.alloc (.cells (boxC q) 40)) p 45 (cellsT e).toArray) := (HLA4.out.below HX4.out HLA4.out.lt).alloc _
              have HTU' : Hid ((Value.slice AT tl.length cT).ownBlock ≠ some u) := by rw [HUG.out]; exact HAP3.out.t0
              have HTU1' : Hid ((Value.slice AT tl.length cT).ownBlock ≠ some (u + 1)) := by rw [HUG.out]; exact HAP3.out.t1
              clear hX d3 f3 gAl k1 k2 k3 k4 k5 k6 k7 k8 k9 k10 k11
              have i1 : (1 : Int) < (i : Int) + 1 := by omega
              have i2 : (2 : Int) < (i : Int) + 1 := by omega
              have i3 : (3 : Int) < (i : Int) + 1 := by omega
              have i4 : (4 : Int) < (i : Int) + 1 := by omega
              have i5 : (5 : Int) < (i : Int) + 1 := by omega
              have i6 : (6 : Int) < (i : Int) + 1 := by omega
              have i7 : (7 : Int) < (i : Int) + 1 := by omega
              have i8 : (8 : Int) < (i : Int) + 1 := by omega
              have i9 : (9 : Int) < (i : Int) + 1 := by omega
              have i10 : (10 : Int) < (i : Int) + 1 := by omega
              have i11 : (11 : Int) < (i : Int) + 1 := by omega
              go_upto_region 35 with fail
              refine wp_region_held_drew (S := fun w' => w'.cell? ⟨b1, off1 + 5 + 1, none⟩ = some (.string q.name) ∧ w'.cell? ⟨b1, off1 + 10 + 2, none⟩ = some (.int .i64 q.T) ∧ w'.cell? ⟨b1, off1 + 15 + 2, none⟩ = some (.int .i64 q.D) ∧ w'.cell? ⟨b1, off1 + 20 + 2, none⟩ = some (.int .i64 q.C) ∧ w'.cell? ⟨b1, off1 + 25 + 1, none⟩ = some (.string ⟨t5.toArray⟩) ∧ w'.cell? ⟨b1, off1 + 30 + 2, none⟩ = some (.int .i64 q.A) ∧ w'.cell? ⟨b1, off1 + 35 + 2, none⟩ = some (.int .i64 q.Seg) ∧ w'.cell? ⟨b1, off1 + 40 + 2, none⟩ = some (.int .i64 q.Cost) ∧ w'.cell? ⟨b1, off1 + 45 + 2, none⟩ = some (.int .i64 q.M) ∧ w'.cell? ⟨b1, off1 + 50 + 2, none⟩ = some (.int .i64 q.K) ∧ w'.cell? ⟨b1, off1 + 55 + 2, none⟩ = some (.int .i64 q.Prio)) (by kernel_rfl) (by rw [← HX.out]; exact KP.out _ HXX.out) (fun hHeld => ?_)
              rw [← HX.out] at hHeld ⊢
              refine wpAnyH_take (i := 0) (oi := ⟨(some 131), .fieldAddr 26 (.tmp 6) 1, _, _, _, none⟩) (v := ?_) rfl (by kernel_rfl) (by kernel_rfl) (by kernel_rfl) (fun _ _ _ h => h) (Or.inl ⟨by rfl, ?_⟩) hHeld ?_
              rotate_left
              · intro w hSw
                (try dsimp only at hSw)
                go_simp
                (try with_reducible rfl)
              (try simp only [Act.put, List.setIfInBounds_toArray, List.set_cons_zero, List.set_cons_succ])
              refine wpAnyH_take (i := 2) (oi := ⟨(some 133), .move (.tmp 10), _, _, _, none⟩) (v := ?_) rfl (by kernel_rfl) (by kernel_rfl) (by kernel_rfl) (fun _ _ _ h => h) (Or.inl ⟨by rfl, ?_⟩) hHeld ?_
              rotate_left
              · intro w hSw
                (try dsimp only at hSw)
                go_simp
                (try with_reducible rfl)
              (try simp only [Act.put, List.setIfInBounds_toArray, List.set_cons_zero, List.set_cons_succ])
              refine wpAnyH_take (i := 3) (oi := ⟨(some 134), .indexAddr 41 (.tmp 133) (.const (.int .i64 1)), _, _, _, none⟩) (v := ?_) rfl (by kernel_rfl) (by kernel_rfl) (by kernel_rfl) (fun _ _ _ h => h) (Or.inl ⟨by rfl, ?_⟩) hHeld ?_
              rotate_left
              · intro w hSw
                (try dsimp only at hSw)
                go_simp
                (try with_reducible rfl)
              (try simp only [Act.put, List.setIfInBounds_toArray, List.set_cons_zero, List.set_cons_succ])
              refine wpAnyH_take (i := 4) (oi := ⟨(some 135), .fieldAddr 45 (.tmp 134) 1, _, _, _, none⟩) (v := ?_) rfl (by kernel_rfl) (by kernel_rfl) (by kernel_rfl) (fun _ _ _ h => h) (Or.inl ⟨by rfl, ?_⟩) hHeld ?_
              rotate_left
              · intro w hSw
                (try dsimp only at hSw)
                go_simp
                (try with_reducible rfl)
              (try simp only [Act.put, List.setIfInBounds_toArray, List.set_cons_zero, List.set_cons_succ])
              refine wpAnyH_take (i := 5) (oi := ⟨(some 136), .load 9 (.tmp 135), _, _, _, none⟩) (v := ?_) rfl (by kernel_rfl) (by kernel_rfl) (by kernel_rfl) (fun _ _ _ h => h) (Or.inl ⟨by rfl, ?_⟩) hHeld ?_
              rotate_left
              · intro w hSw
                (try dsimp only at hSw)
                go_simp
                (try with_reducible rfl)
              (try simp only [Act.put, List.setIfInBounds_toArray, List.set_cons_zero, List.set_cons_succ])
              refine wpAnyH_take (i := 6) (oi := ⟨(some 137), .move (.tmp 10), _, _, _, none⟩) (v := ?_) rfl (by kernel_rfl) (by kernel_rfl) (by kernel_rfl) (fun _ _ _ h => h) (Or.inl ⟨by rfl, ?_⟩) hHeld ?_
              rotate_left
              · intro w hSw
                (try dsimp only at hSw)
                go_simp
                (try with_reducible rfl)
              (try simp only [Act.put, List.setIfInBounds_toArray, List.set_cons_zero, List.set_cons_succ])
              refine wpAnyH_take (i := 7) (oi := ⟨(some 138), .indexAddr 41 (.tmp 137) (.const (.int .i64 2)), _, _, _, none⟩) (v := ?_) rfl (by kernel_rfl) (by kernel_rfl) (by kernel_rfl) (fun _ _ _ h => h) (Or.inl ⟨by rfl, ?_⟩) hHeld ?_
              rotate_left
              · intro w hSw
                (try dsimp only at hSw)
                go_simp
                (try with_reducible rfl)
              (try simp only [Act.put, List.setIfInBounds_toArray, List.set_cons_zero, List.set_cons_succ])
              refine wpAnyH_take (i := 8) (oi := ⟨(some 139), .fieldAddr 45 (.tmp 138) 2, _, _, _, none⟩) (v := ?_) rfl (by kernel_rfl) (by kernel_rfl) (by kernel_rfl) (fun _ _ _ h => h) (Or.inl ⟨by rfl, ?_⟩) hHeld ?_
              rotate_left
              · intro w hSw
                (try dsimp only at hSw)
                go_simp
                (try with_reducible rfl)
              (try simp only [Act.put, List.setIfInBounds_toArray, List.set_cons_zero, List.set_cons_succ])
              refine wpAnyH_take (i := 9) (oi := ⟨(some 140), .load 3 (.tmp 139), _, _, _, none⟩) (v := ?_) rfl (by kernel_rfl) (by kernel_rfl) (by kernel_rfl) (fun _ _ _ h => h) (Or.inl ⟨by rfl, ?_⟩) hHeld ?_
              rotate_left
              · intro w hSw
                (try dsimp only at hSw)
                go_simp
                (try with_reducible rfl)
              (try simp only [Act.put, List.setIfInBounds_toArray, List.set_cons_zero, List.set_cons_succ])
              refine wpAnyH_take (i := 10) (oi := ⟨(some 141), .move (.tmp 10), _, _, _, none⟩) (v := ?_) rfl (by kernel_rfl) (by kernel_rfl) (by kernel_rfl) (fun _ _ _ h => h) (Or.inl ⟨by rfl, ?_⟩) hHeld ?_
              rotate_left
              · intro w hSw
                (try dsimp only at hSw)
                go_simp
                (try with_reducible rfl)
              (try simp only [Act.put, List.setIfInBounds_toArray, List.set_cons_zero, List.set_cons_succ])
              refine wpAnyH_take (i := 11) (oi := ⟨(some 142), .indexAddr 41 (.tmp 141) (.const (.int .i64 3)), _, _, _, none⟩) (v := ?_) rfl (by kernel_rfl) (by kernel_rfl) (by kernel_rfl) (fun _ _ _ h => h) (Or.inl ⟨by rfl, ?_⟩) hHeld ?_
              rotate_left
              · intro w hSw
                (try dsimp only at hSw)
                go_simp
                (try with_reducible rfl)
              (try simp only [Act.put, List.setIfInBounds_toArray, List.set_cons_zero, List.set_cons_succ])
              refine wpAnyH_take (i := 12) (oi := ⟨(some 143), .fieldAddr 45 (.tmp 142) 2, _, _, _, none⟩) (v := ?_) rfl (by kernel_rfl) (by kernel_rfl) (by kernel_rfl) (fun _ _ _ h => h) (Or.inl ⟨by rfl, ?_⟩) hHeld ?_
              rotate_left
              · intro w hSw
                (try dsimp only at hSw)
                go_simp
                (try with_reducible rfl)
              (try simp only [Act.put, List.setIfInBounds_toArray, List.set_cons_zero, List.set_cons_succ])
              refine wpAnyH_take (i := 13) (oi := ⟨(some 144), .load 3 (.tmp 143), _, _, _, none⟩) (v := ?_) rfl (by kernel_rfl) (by kernel_rfl) (by kernel_rfl) (fun _ _ _ h => h) (Or.inl ⟨by rfl, ?_⟩) hHeld ?_
              rotate_left
              · intro w hSw
                (try dsimp only at hSw)
                go_simp
                (try with_reducible rfl)
              (try simp only [Act.put, List.setIfInBounds_toArray, List.set_cons_zero, List.set_cons_succ])
              refine wpAnyH_take (i := 14) (oi := ⟨(some 145), .move (.tmp 10), _, _, _, none⟩) (v := ?_) rfl (by kernel_rfl) (by kernel_rfl) (by kernel_rfl) (fun _ _ _ h => h) (Or.inl ⟨by rfl, ?_⟩) hHeld ?_
              rotate_left
              · intro w hSw
                (try dsimp only at hSw)
                go_simp
                (try with_reducible rfl)
              (try simp only [Act.put, List.setIfInBounds_toArray, List.set_cons_zero, List.set_cons_succ])
              refine wpAnyH_take (i := 15) (oi := ⟨(some 146), .indexAddr 41 (.tmp 145) (.const (.int .i64 4)), _, _, _, none⟩) (v := ?_) rfl (by kernel_rfl) (by kernel_rfl) (by kernel_rfl) (fun _ _ _ h => h) (Or.inl ⟨by rfl, ?_⟩) hHeld ?_
              rotate_left
              · intro w hSw
                (try dsimp only at hSw)
                go_simp
                (try with_reducible rfl)
              (try simp only [Act.put, List.setIfInBounds_toArray, List.set_cons_zero, List.set_cons_succ])
              refine wpAnyH_take (i := 16) (oi := ⟨(some 147), .fieldAddr 45 (.tmp 146) 2, _, _, _, none⟩) (v := ?_) rfl (by kernel_rfl) (by kernel_rfl) (by kernel_rfl) (fun _ _ _ h => h) (Or.inl ⟨by rfl, ?_⟩) hHeld ?_
              rotate_left
              · intro w hSw
                (try dsimp only at hSw)
                go_simp
                (try with_reducible rfl)
              (try simp only [Act.put, List.setIfInBounds_toArray, List.set_cons_zero, List.set_cons_succ])
              refine wpAnyH_take (i := 17) (oi := ⟨(some 148), .load 3 (.tmp 147), _, _, _, none⟩) (v := ?_) rfl (by kernel_rfl) (by kernel_rfl) (by kernel_rfl) (fun _ _ _ h => h) (Or.inl ⟨by rfl, ?_⟩) hHeld ?_
              rotate_left
              · intro w hSw
                (try dsimp only at hSw)
                go_simp
                (try with_reducible rfl)
              (try simp only [Act.put, List.setIfInBounds_toArray, List.set_cons_zero, List.set_cons_succ])
              refine wpAnyH_take (i := 18) (oi := ⟨(some 149), .move (.tmp 10), _, _, _, none⟩) (v := ?_) rfl (by kernel_rfl) (by kernel_rfl) (by kernel_rfl) (fun _ _ _ h => h) (Or.inl ⟨by rfl, ?_⟩) hHeld ?_
              rotate_left
              · intro w hSw
                (try dsimp only at hSw)
                go_simp
                (try with_reducible rfl)
              (try simp only [Act.put, List.setIfInBounds_toArray, List.set_cons_zero, List.set_cons_succ])
              refine wpAnyH_take (i := 19) (oi := ⟨(some 150), .indexAddr 41 (.tmp 149) (.const (.int .i64 5)), _, _, _, none⟩) (v := ?_) rfl (by kernel_rfl) (by kernel_rfl) (by kernel_rfl) (fun _ _ _ h => h) (Or.inl ⟨by rfl, ?_⟩) hHeld ?_
              rotate_left
              · intro w hSw
                (try dsimp only at hSw)
                go_simp
                (try with_reducible rfl)
              (try simp only [Act.put, List.setIfInBounds_toArray, List.set_cons_zero, List.set_cons_succ])
              refine wpAnyH_take (i := 20) (oi := ⟨(some 151), .fieldAddr 45 (.tmp 150) 1, _, _, _, none⟩) (v := ?_) rfl (by kernel_rfl) (by kernel_rfl) (by kernel_rfl) (fun _ _ _ h => h) (Or.inl ⟨by rfl, ?_⟩) hHeld ?_
              rotate_left
              · intro w hSw
                (try dsimp only at hSw)
                go_simp
                (try with_reducible rfl)
              (try simp only [Act.put, List.setIfInBounds_toArray, List.set_cons_zero, List.set_cons_succ])
              refine wpAnyH_take (i := 21) (oi := ⟨(some 152), .load 9 (.tmp 151), _, _, _, none⟩) (v := ?_) rfl (by kernel_rfl) (by kernel_rfl) (by kernel_rfl) (fun _ _ _ h => h) (Or.inl ⟨by rfl, ?_⟩) hHeld ?_
              rotate_left
              · intro w hSw
                (try dsimp only at hSw)
                go_simp
                (try with_reducible rfl)
              (try simp only [Act.put, List.setIfInBounds_toArray, List.set_cons_zero, List.set_cons_succ])
              refine wpAnyH_take (i := 23) (oi := ⟨(some 154), .move (.tmp 10), _, _, _, none⟩) (v := ?_) rfl (by kernel_rfl) (by kernel_rfl) (by kernel_rfl) (fun _ _ _ h => h) (Or.inl ⟨by rfl, ?_⟩) hHeld ?_
              rotate_left
              · intro w hSw
                (try dsimp only at hSw)
                go_simp
                (try with_reducible rfl)
              (try simp only [Act.put, List.setIfInBounds_toArray, List.set_cons_zero, List.set_cons_succ])
              refine wpAnyH_take (i := 24) (oi := ⟨(some 155), .indexAddr 41 (.tmp 154) (.const (.int .i64 6)), _, _, _, none⟩) (v := ?_) rfl (by kernel_rfl) (by kernel_rfl) (by kernel_rfl) (fun _ _ _ h => h) (Or.inl ⟨by rfl, ?_⟩) hHeld ?_
              rotate_left
              · intro w hSw
                (try dsimp only at hSw)
                go_simp
                (try with_reducible rfl)
              (try simp only [Act.put, List.setIfInBounds_toArray, List.set_cons_zero, List.set_cons_succ])
              refine wpAnyH_take (i := 25) (oi := ⟨(some 156), .fieldAddr 45 (.tmp 155) 2, _, _, _, none⟩) (v := ?_) rfl (by kernel_rfl) (by kernel_rfl) (by kernel_rfl) (fun _ _ _ h => h) (Or.inl ⟨by rfl, ?_⟩) hHeld ?_
              rotate_left
              · intro w hSw
                (try dsimp only at hSw)
                go_simp
                (try with_reducible rfl)
              (try simp only [Act.put, List.setIfInBounds_toArray, List.set_cons_zero, List.set_cons_succ])
              refine wpAnyH_take (i := 26) (oi := ⟨(some 157), .load 3 (.tmp 156), _, _, _, none⟩) (v := ?_) rfl (by kernel_rfl) (by kernel_rfl) (by kernel_rfl) (fun _ _ _ h => h) (Or.inl ⟨by rfl, ?_⟩) hHeld ?_
              rotate_left
              · intro w hSw
                (try dsimp only at hSw)
                go_simp
                (try with_reducible rfl)
              (try simp only [Act.put, List.setIfInBounds_toArray, List.set_cons_zero, List.set_cons_succ])
              refine wpAnyH_take (i := 27) (oi := ⟨(some 158), .move (.tmp 10), _, _, _, none⟩) (v := ?_) rfl (by kernel_rfl) (by kernel_rfl) (by kernel_rfl) (fun _ _ _ h => h) (Or.inl ⟨by rfl, ?_⟩) hHeld ?_
              rotate_left
              · intro w hSw
                (try dsimp only at hSw)
                go_simp
                (try with_reducible rfl)
              (try simp only [Act.put, List.setIfInBounds_toArray, List.set_cons_zero, List.set_cons_succ])
              refine wpAnyH_take (i := 28) (oi := ⟨(some 159), .indexAddr 41 (.tmp 158) (.const (.int .i64 7)), _, _, _, none⟩) (v := ?_) rfl (by kernel_rfl) (by kernel_rfl) (by kernel_rfl) (fun _ _ _ h => h) (Or.inl ⟨by rfl, ?_⟩) hHeld ?_
              rotate_left
              · intro w hSw
                (try dsimp only at hSw)
                go_simp
                (try with_reducible rfl)
              (try simp only [Act.put, List.setIfInBounds_toArray, List.set_cons_zero, List.set_cons_succ])
              refine wpAnyH_take (i := 29) (oi := ⟨(some 160), .fieldAddr 45 (.tmp 159) 2, _, _, _, none⟩) (v := ?_) rfl (by kernel_rfl) (by kernel_rfl) (by kernel_rfl) (fun _ _ _ h => h) (Or.inl ⟨by rfl, ?_⟩) hHeld ?_
              rotate_left
              · intro w hSw
                (try dsimp only at hSw)
                go_simp
                (try with_reducible rfl)
              (try simp only [Act.put, List.setIfInBounds_toArray, List.set_cons_zero, List.set_cons_succ])
              refine wpAnyH_take (i := 30) (oi := ⟨(some 161), .load 3 (.tmp 160), _, _, _, none⟩) (v := ?_) rfl (by kernel_rfl) (by kernel_rfl) (by kernel_rfl) (fun _ _ _ h => h) (Or.inl ⟨by rfl, ?_⟩) hHeld ?_
              rotate_left
              · intro w hSw
                (try dsimp only at hSw)
                go_simp
                (try with_reducible rfl)
              (try simp only [Act.put, List.setIfInBounds_toArray, List.set_cons_zero, List.set_cons_succ])
              refine wpAnyH_take (i := 31) (oi := ⟨(some 162), .move (.tmp 10), _, _, _, none⟩) (v := ?_) rfl (by kernel_rfl) (by kernel_rfl) (by kernel_rfl) (fun _ _ _ h => h) (Or.inl ⟨by rfl, ?_⟩) hHeld ?_
              rotate_left
              · intro w hSw
                (try dsimp only at hSw)
                go_simp
                (try with_reducible rfl)
              (try simp only [Act.put, List.setIfInBounds_toArray, List.set_cons_zero, List.set_cons_succ])
              refine wpAnyH_take (i := 32) (oi := ⟨(some 163), .indexAddr 41 (.tmp 162) (.const (.int .i64 8)), _, _, _, none⟩) (v := ?_) rfl (by kernel_rfl) (by kernel_rfl) (by kernel_rfl) (fun _ _ _ h => h) (Or.inl ⟨by rfl, ?_⟩) hHeld ?_
              rotate_left
              · intro w hSw
                (try dsimp only at hSw)
                go_simp
                (try with_reducible rfl)
              (try simp only [Act.put, List.setIfInBounds_toArray, List.set_cons_zero, List.set_cons_succ])
              refine wpAnyH_take (i := 33) (oi := ⟨(some 164), .fieldAddr 45 (.tmp 163) 2, _, _, _, none⟩) (v := ?_) rfl (by kernel_rfl) (by kernel_rfl) (by kernel_rfl) (fun _ _ _ h => h) (Or.inl ⟨by rfl, ?_⟩) hHeld ?_
              rotate_left
              · intro w hSw
                (try dsimp only at hSw)
                go_simp
                (try with_reducible rfl)
              (try simp only [Act.put, List.setIfInBounds_toArray, List.set_cons_zero, List.set_cons_succ])
              refine wpAnyH_take (i := 34) (oi := ⟨(some 165), .load 3 (.tmp 164), _, _, _, none⟩) (v := ?_) rfl (by kernel_rfl) (by kernel_rfl) (by kernel_rfl) (fun _ _ _ h => h) (Or.inl ⟨by rfl, ?_⟩) hHeld ?_
              rotate_left
              · intro w hSw
                (try dsimp only at hSw)
                go_simp
                (try with_reducible rfl)
              (try simp only [Act.put, List.setIfInBounds_toArray, List.set_cons_zero, List.set_cons_succ])
              refine wpAnyH_take (i := 35) (oi := ⟨(some 166), .move (.tmp 10), _, _, _, none⟩) (v := ?_) rfl (by kernel_rfl) (by kernel_rfl) (by kernel_rfl) (fun _ _ _ h => h) (Or.inl ⟨by rfl, ?_⟩) hHeld ?_
              rotate_left
              · intro w hSw
                (try dsimp only at hSw)
                go_simp
                (try with_reducible rfl)
              (try simp only [Act.put, List.setIfInBounds_toArray, List.set_cons_zero, List.set_cons_succ])
              refine wpAnyH_take (i := 36) (oi := ⟨(some 167), .indexAddr 41 (.tmp 166) (.const (.int .i64 9)), _, _, _, none⟩) (v := ?_) rfl (by kernel_rfl) (by kernel_rfl) (by kernel_rfl) (fun _ _ _ h => h) (Or.inl ⟨by rfl, ?_⟩) hHeld ?_
              rotate_left
              · intro w hSw
                (try dsimp only at hSw)
                go_simp
                (try with_reducible rfl)
              (try simp only [Act.put, List.setIfInBounds_toArray, List.set_cons_zero, List.set_cons_succ])
              refine wpAnyH_take (i := 37) (oi := ⟨(some 168), .fieldAddr 45 (.tmp 167) 2, _, _, _, none⟩) (v := ?_) rfl (by kernel_rfl) (by kernel_rfl) (by kernel_rfl) (fun _ _ _ h => h) (Or.inl ⟨by rfl, ?_⟩) hHeld ?_
              rotate_left
              · intro w hSw
                (try dsimp only at hSw)
                go_simp
                (try with_reducible rfl)
              (try simp only [Act.put, List.setIfInBounds_toArray, List.set_cons_zero, List.set_cons_succ])
              refine wpAnyH_take (i := 38) (oi := ⟨(some 169), .load 3 (.tmp 168), _, _, _, none⟩) (v := ?_) rfl (by kernel_rfl) (by kernel_rfl) (by kernel_rfl) (fun _ _ _ h => h) (Or.inl ⟨by rfl, ?_⟩) hHeld ?_
              rotate_left
              · intro w hSw
                (try dsimp only at hSw)
                go_simp
                (try with_reducible rfl)
              (try simp only [Act.put, List.setIfInBounds_toArray, List.set_cons_zero, List.set_cons_succ])
              refine wpAnyH_take (i := 39) (oi := ⟨(some 170), .move (.tmp 10), _, _, _, none⟩) (v := ?_) rfl (by kernel_rfl) (by kernel_rfl) (by kernel_rfl) (fun _ _ _ h => h) (Or.inl ⟨by rfl, ?_⟩) hHeld ?_
              rotate_left
              · intro w hSw
                (try dsimp only at hSw)
                go_simp
                (try with_reducible rfl)
              (try simp only [Act.put, List.setIfInBounds_toArray, List.set_cons_zero, List.set_cons_succ])
              refine wpAnyH_take (i := 40) (oi := ⟨(some 171), .indexAddr 41 (.tmp 170) (.const (.int .i64 10)), _, _, _, none⟩) (v := ?_) rfl (by kernel_rfl) (by kernel_rfl) (by kernel_rfl) (fun _ _ _ h => h) (Or.inl ⟨by rfl, ?_⟩) hHeld ?_
              rotate_left
              · intro w hSw
                (try dsimp only at hSw)
                go_simp
                (try with_reducible rfl)
              (try simp only [Act.put, List.setIfInBounds_toArray, List.set_cons_zero, List.set_cons_succ])
              refine wpAnyH_take (i := 41) (oi := ⟨(some 172), .fieldAddr 45 (.tmp 171) 2, _, _, _, none⟩) (v := ?_) rfl (by kernel_rfl) (by kernel_rfl) (by kernel_rfl) (fun _ _ _ h => h) (Or.inl ⟨by rfl, ?_⟩) hHeld ?_
              rotate_left
              · intro w hSw
                (try dsimp only at hSw)
                go_simp
                (try with_reducible rfl)
              (try simp only [Act.put, List.setIfInBounds_toArray, List.set_cons_zero, List.set_cons_succ])
              refine wpAnyH_take (i := 42) (oi := ⟨(some 173), .load 3 (.tmp 172), _, _, _, none⟩) (v := ?_) rfl (by kernel_rfl) (by kernel_rfl) (by kernel_rfl) (fun _ _ _ h => h) (Or.inl ⟨by rfl, ?_⟩) hHeld ?_
              rotate_left
              · intro w hSw
                (try dsimp only at hSw)
                go_simp
                (try with_reducible rfl)
              (try simp only [Act.put, List.setIfInBounds_toArray, List.set_cons_zero, List.set_cons_succ])
              refine wpAnyH_take (i := 43) (oi := ⟨(some 174), .move (.tmp 10), _, _, _, none⟩) (v := ?_) rfl (by kernel_rfl) (by kernel_rfl) (by kernel_rfl) (fun _ _ _ h => h) (Or.inl ⟨by rfl, ?_⟩) hHeld ?_
              rotate_left
              · intro w hSw
                (try dsimp only at hSw)
                go_simp
                (try with_reducible rfl)
              (try simp only [Act.put, List.setIfInBounds_toArray, List.set_cons_zero, List.set_cons_succ])
              refine wpAnyH_take (i := 44) (oi := ⟨(some 175), .indexAddr 41 (.tmp 174) (.const (.int .i64 11)), _, _, _, none⟩) (v := ?_) rfl (by kernel_rfl) (by kernel_rfl) (by kernel_rfl) (fun _ _ _ h => h) (Or.inl ⟨by rfl, ?_⟩) hHeld ?_
              rotate_left
              · intro w hSw
                (try dsimp only at hSw)
                go_simp
                (try with_reducible rfl)
              (try simp only [Act.put, List.setIfInBounds_toArray, List.set_cons_zero, List.set_cons_succ])
              refine wpAnyH_take (i := 45) (oi := ⟨(some 176), .fieldAddr 45 (.tmp 175) 2, _, _, _, none⟩) (v := ?_) rfl (by kernel_rfl) (by kernel_rfl) (by kernel_rfl) (fun _ _ _ h => h) (Or.inl ⟨by rfl, ?_⟩) hHeld ?_
              rotate_left
              · intro w hSw
                (try dsimp only at hSw)
                go_simp
                (try with_reducible rfl)
              (try simp only [Act.put, List.setIfInBounds_toArray, List.set_cons_zero, List.set_cons_succ])
              refine wpAnyH_take (i := 46) (oi := ⟨(some 177), .load 3 (.tmp 176), _, _, _, none⟩) (v := ?_) rfl (by kernel_rfl) (by kernel_rfl) (by kernel_rfl) (fun _ _ _ h => h) (Or.inl ⟨by rfl, ?_⟩) hHeld ?_
              rotate_left
              · intro w hSw
                (try dsimp only at hSw)
                go_simp
                (try with_reducible rfl)
              (try simp only [Act.put, List.setIfInBounds_toArray, List.set_cons_zero, List.set_cons_succ])
              refine wpAnyH_ready (rs := [1, 22]) (by kernel_rfl) (by simp) ?_
              refine AllReadyH.cons (o := ⟨(some 132), .load 24 (.tmp 131), _, _, _, none⟩) rfl (fun K hK => ?_) ?_
              · go_simp
                refine hK.out _ _ (KP.out _ HXX.out) (fun hHeld => ?_)
                clear hK K
                (try simp only [Act.put, List.setIfInBounds_toArray, List.set_cons_zero, List.set_cons_succ])
                refine wpAnyH_ready (rs := [22]) (by kernel_rfl) (by simp) ?_
                refine AllReadyH.cons (o := ⟨(some 153), _, _, _, _, none⟩) rfl (fun K hK => ?_) ?_
                rotate_left
                · exact AllReadyH.nil
                go_simp
                go_at_call 15
                refine (KM.out _).mono ?_
                rintro e7 w7 ⟨rfl, rfl⟩
                (try go_simp)
                refine hK.out _ _ (KP.out _ HXX.out) (fun hHeld => ?_)
                clear hK K
                (try simp only [Act.put, List.setIfInBounds_toArray, List.set_cons_zero, List.set_cons_succ])
                refine wpAnyH_ready (rs := [47]) (by kernel_rfl) (by simp) ?_
                refine AllReadyH.cons (o := ⟨(some 178), _, _, _, _, none⟩) rfl (fun K hK => ?_) ?_
                rotate_left
                · exact AllReadyH.nil
                refine step_build40 rfl (.tmp 136) (.tmp 140) (.tmp 144) (.tmp 148) (.tmp 153) (.tmp 157) (.tmp 161) (.tmp 165) (.tmp 169) (.tmp 173) (.tmp 177) rfl q (by rfl) (by rfl) (by rfl) (by rfl) (by rfl) (by rfl) (by rfl) (by rfl) (by rfl) (by rfl) (by rfl) ?_
                refine hK.out _ _ (KP.out _ HXX.out) (fun hHeld => ?_)
                clear hK K
                (try simp only [Act.put, List.setIfInBounds_toArray, List.set_cons_zero, List.set_cons_succ])
                refine wpAnyH_ready (rs := [48]) (by kernel_rfl) (by simp) ?_
                refine AllReadyH.cons (o := ⟨(some 179), _, _, _, _, none⟩) rfl (fun K hK => ?_) ?_
                rotate_left
                · exact AllReadyH.nil
                refine step_build_task rfl (.tmp 178) rfl q (by rfl) ?_
                refine hK.out _ _ (KP.out _ HXN.out) (fun hHeld => ?_)
                clear hK K
                (try simp only [Act.put, List.setIfInBounds_toArray, List.set_cons_zero, List.set_cons_succ])
                refine wpAnyH_ready (rs := [49]) (by kernel_rfl) (by simp) ?_
                refine AllReadyH.cons (o := ⟨(some 180), _, _, _, _, none⟩) rfl (fun K hK => ?_) ?_
                rotate_left
                · exact AllReadyH.nil
                refine step_append_task rfl (.tmp 132) (.tmp 179) rfl U.heap.size tl.length 1 (tl.length + 1) X.heap.size (.slice AT tl.length cT) tl q (by rfl) (by rfl) HRT.out.tasks (Lies.made X 40 _) rfl hll HXS.out ?_
                intro A5 c5 w5 hl5
                have L5 := lies_longerK HRL.out hl5 HTU'.out
                have HB54 := Lib.hid (Below.grown HXN.out hl5.2.1 HXS.out (fun k hk => (own_lt HRT.out.tasks hk).1))
                have D3 : w5.cell? ⟨u, 1, none⟩ = some (.slice AT tl.length cT) := (L5.cell 1).trans rfl
                have F3 := L5.thawed 1
                refine hK.out _ _ (KP.out _ HB54.out) (fun hHeld => ?_)
                clear hK K
                (try simp only [Act.put, List.setIfInBounds_toArray, List.set_cons_zero, List.set_cons_succ])
                refine wpAnyH_take (i := 50) (oi := ⟨(some 181), .fieldAddr 26 (.tmp 6) 1, _, _, _, none⟩) (v := ?_) rfl (by kernel_rfl) (by kernel_rfl) (by kernel_rfl) (fun _ _ _ h => h) (Or.inl ⟨by rfl, ?_⟩) hHeld ?_
                rotate_left
                · intro w hSw
                  (try dsimp only at hSw)
                  go_simp
                  (try with_reducible rfl)
                (try simp only [Act.put, List.setIfInBounds_toArray, List.set_cons_zero, List.set_cons_succ])
                refine wpAnyH_ready (rs := [51]) (by kernel_rfl) (by simp) ?_
                refine AllReadyH.cons (o := ⟨none, .store 24 (.tmp 181) (.tmp 180), _, _, _, none⟩) rfl (fun K hK => ?_) ?_
                rotate_left
                · exact AllReadyH.nil
                go_simp
                refine hK.out _ _ (KP.out _ (HB54.out.setCell (p := ⟨u, 1, none⟩) HUle.out _)) (fun hHeld => ?_)
                clear hK K
                (try simp only [Act.put, List.setIfInBounds_toArray, List.set_cons_zero, List.set_cons_succ])
                refine wpAnyH_done (by kernel_rfl) ?_ _
                have HB5 := Lib.hid ((Below.grown HBX.out hl5.2.1 HBX.out.size (fun k hk => (own_lt HRT.out.tasks hk).1)).setCell (p := ⟨u, 1, none⟩) (by rw [HUG.out]; exact Nat.le_refl _) (.slice A5 (tl.length + 1) c5))
                have HAP5 := Lib.hid (HRT.out.task (by simp; omega) hl5 (.slice A5 (tl.length + 1) c5))
                rw [← HUG.out] at HAP5
                have HL65 := Lib.hid (L5.here 1 (.slice A5 (tl.length + 1) c5))
                have HL75 := Lib.hid ((lies_longerK HL7X.out hl5 HTU1'.out).there (a := ⟨u, 1, none⟩) (show u + 1 ≠ u by omega) (.slice A5 (tl.length + 1) c5))
                have HLA5 := Lib.hid ((lies_longerK HLAX.out hl5 HTP.out).there (a := ⟨u, 1, none⟩) (show p ≠ u by omega) (.slice A5 (tl.length + 1) c5))
                clear hl5 L5 D3 F3 d4 d5 HB54 hHeld
                generalize w5.setCell ⟨u, 1, none⟩ (.slice A5 (tl.length + 1) c5) = W6 at HB5 HAP5 HL65 HL75 HLA5 ⊢
                have z0 : W6.cell? ⟨p, 0, none⟩ = some (.int .i64 (e.kind : Nat)) := (HLA5.out.cell 0).trans rfl
                have z1 : W6.cell? ⟨p, 1, none⟩ = some (.string ⟨e.text.toArray⟩) := (HLA5.out.cell 1).trans rfl
                have z2 : W6.cell? ⟨p, 2, none⟩ = some (.int .i64 (e.value : Nat)) := (HLA5.out.cell 2).trans rfl
                have z3 : W6.cell? ⟨p, 3, none⟩ = some (.int .i64 (e.line : Nat)) := (HLA5.out.cell 3).trans rfl
                have z4 : W6.cell? ⟨p, 4, none⟩ = some (.int .i64 (e.col : Nat)) := (HLA5.out.cell 4).trans rfl
                have HLT : Hid (∀ W', Below W6.heap.size W6 W' → ∀ rem', runB ts [] = runT b rem' [] (hs ++ [t0]) (tl ++ [q]) → (tl ++ [q]).length + rem'.length ≤ ts.length + 1 → Later U ts rem' (.slice A3 (hs.length + 1) c3) (.int .i64 ((N : Int) + 1)) W') := fun W' hW' rem' h1 h2 =>
                  ⟨b, hs ++ [t0], tl ++ [q], .slice A5 (tl.length + 1) c5, h1, by simp [HHL.out], h2, by rw [HN.out]; simp, by rw [← HUG.out]; exact (show Lies W' u 26 #[.int .i64 (b.value : Nat), .slice A5 (tl.length + 1) c5] from (by simpa using HL65.out.below hW' HL65.out.lt)), by rw [← HUG.out]; exact HL75.out.below hW' HL75.out.lt, HAP5.out.on hW'⟩
                rcases HLINE.out.ends with hk3 | hk4
                · have q4 : ((e.kind : Int) == 4) = false := by rw [hk3]; rfl
                  have HK3 := Lib.hid hk3
                  have hE := (ended_at HLEFT.out.ended HLINE.out.at_).2 (by rw [hk3]; decide)
                  have HE := Lib.hid hE
                  have HLT2 := Lib.hid (HLT.out W6 (Below.refl _ _) (rem.drop (i + 1)) (by rw [HQ.out, HR3.out HK3.out, HT0.out, HQT.out, HI12.out]) (by simp; omega))
                  clear hk3 hE
                  go_wp2
                  go_roundw
                  case rel => exact ⟨rem.drop (i + 1), A2, c2, by rw [hn2], ⟨.inl HHELD.out, hc2, HE.out, fun t ht => HLEFT.out.fair t (List.mem_of_mem_drop ht), by omega, HB5.out⟩, .inr HLT2.out⟩
                  case measure => simp only [lenV]; omega
                · have q4 : ((e.kind : Int) == 4) = true := by rw [hk4]; rfl
                  have HK4 := Lib.hid hk4
                  clear hk4
                  have HTK : Hid (Toks (W6.alloc (.cells #[.int .i64 (e.kind : Nat), .string ⟨e.text.toArray⟩, .int .i64 (e.value : Nat), .int .i64 (e.line : Nat), .int .i64 (e.col : Nat)] 45)) (some ⟨W6.heap.size, 0, none⟩) [e]) := toks_one (Lies.made _ _ _)
                  have HLT2 := Lib.hid (HLT.out _ (below_new W6 (.cells #[.int .i64 (e.kind : Nat), .string ⟨e.text.toArray⟩, .int .i64 (e.value : Nat), .int .i64 (e.line : Nat), .int .i64 (e.col : Nat)] 45)) [e] (by rw [HQ.out, HR4.out HK4.out, HT0.out, HQT.out]) (by simp; omega))
                  have HFE := Lib.hid (HLEFT.out.fair e (List.mem_of_getElem? HLINE.out.at_))
                  have HBE := Lib.hid (HB5.out.alloc HB5.out.size (.cells #[.int .i64 (e.kind : Nat), .string ⟨e.text.toArray⟩, .int .i64 (e.value : Nat), .int .i64 (e.line : Nat), .int .i64 (e.col : Nat)] 45))
                  have h1r : 1 < rem.length := by omega
                  go_upto_region 37 with fail
                  go_wp2_with (refine wpList_build_tok rfl (.tmp 185) rfl (.int .i64 (e.kind : Nat)) (.string ⟨e.text.toArray⟩) (.int .i64 (e.value : Nat)) (.int .i64 (e.line : Nat)) (.int .i64 (e.col : Nat)) (by rfl) ?_)
                  go_roundw
                  case rel => exact ⟨[e], some ⟨W6.heap.size, 0, none⟩, 1, rfl, ⟨.inr ⟨Nat.le_refl _, HTK.out⟩, Nat.le_refl _, .inl ⟨HK4.out, rfl⟩, fun t ht => by rw [List.mem_singleton.1 ht]; exact HFE.out, (show 1 ≤ ts.length by omega), HBE.out⟩, .inr HLT2.out⟩
                  case measure => simp only [lenV]; omega
              refine AllReadyH.cons (o := ⟨(some 153), _, _, _, _, none⟩) rfl (fun K hK => ?_) ?_
              · go_simp
                go_at_call 15
                refine (KM.out _).mono ?_
                rintro e7 w7 ⟨rfl, rfl⟩
                (try go_simp)
                refine hK.out _ _ (KP.out _ HXX.out) (fun hHeld => ?_)
                clear hK K
                (try simp only [Act.put, List.setIfInBounds_toArray, List.set_cons_zero, List.set_cons_succ])
                refine wpAnyH_ready (rs := [1, 47]) (by kernel_rfl) (by simp) ?_
                refine AllReadyH.cons (o := ⟨(some 132), .load 24 (.tmp 131), _, _, _, none⟩) rfl (fun K hK => ?_) ?_
                · go_simp
                  refine hK.out _ _ (KP.out _ HXX.out) (fun hHeld => ?_)
                  clear hK K
                  (try simp only [Act.put, List.setIfInBounds_toArray, List.set_cons_zero, List.set_cons_succ])
                  refine wpAnyH_ready (rs := [47]) (by kernel_rfl) (by simp) ?_
                  refine AllReadyH.cons (o := ⟨(some 178), _, _, _, _, none⟩) rfl (fun K hK => ?_) ?_
                  rotate_left
                  · exact AllReadyH.nil
                  refine step_build40 rfl (.tmp 136) (.tmp 140) (.tmp 144) (.tmp 148) (.tmp 153) (.tmp 157) (.tmp 161) (.tmp 165) (.tmp 169) (.tmp 173) (.tmp 177) rfl q (by rfl) (by rfl) (by rfl) (by rfl) (by rfl) (by rfl) (by rfl) (by rfl) (by rfl) (by rfl) (by rfl) ?_
                  refine hK.out _ _ (KP.out _ HXX.out) (fun hHeld => ?_)
                  clear hK K
                  (try simp only [Act.put, List.setIfInBounds_toArray, List.set_cons_zero, List.set_cons_succ])
                  refine wpAnyH_ready (rs := [48]) (by kernel_rfl) (by simp) ?_
                  refine AllReadyH.cons (o := ⟨(some 179), _, _, _, _, none⟩) rfl (fun K hK => ?_) ?_
                  rotate_left
                  · exact AllReadyH.nil
                  refine step_build_task rfl (.tmp 178) rfl q (by rfl) ?_
                  refine hK.out _ _ (KP.out _ HXN.out) (fun hHeld => ?_)
                  clear hK K
                  (try simp only [Act.put, List.setIfInBounds_toArray, List.set_cons_zero, List.set_cons_succ])
                  refine wpAnyH_ready (rs := [49]) (by kernel_rfl) (by simp) ?_
                  refine AllReadyH.cons (o := ⟨(some 180), _, _, _, _, none⟩) rfl (fun K hK => ?_) ?_
                  rotate_left
                  · exact AllReadyH.nil
                  refine step_append_task rfl (.tmp 132) (.tmp 179) rfl U.heap.size tl.length 1 (tl.length + 1) X.heap.size (.slice AT tl.length cT) tl q (by rfl) (by rfl) HRT.out.tasks (Lies.made X 40 _) rfl hll HXS.out ?_
                  intro A5 c5 w5 hl5
                  have L5 := lies_longerK HRL.out hl5 HTU'.out
                  have HB54 := Lib.hid (Below.grown HXN.out hl5.2.1 HXS.out (fun k hk => (own_lt HRT.out.tasks hk).1))
                  have D3 : w5.cell? ⟨u, 1, none⟩ = some (.slice AT tl.length cT) := (L5.cell 1).trans rfl
                  have F3 := L5.thawed 1
                  refine hK.out _ _ (KP.out _ HB54.out) (fun hHeld => ?_)
                  clear hK K
                  (try simp only [Act.put, List.setIfInBounds_toArray, List.set_cons_zero, List.set_cons_succ])
                  refine wpAnyH_take (i := 50) (oi := ⟨(some 181), .fieldAddr 26 (.tmp 6) 1, _, _, _, none⟩) (v := ?_) rfl (by kernel_rfl) (by kernel_rfl) (by kernel_rfl) (fun _ _ _ h => h) (Or.inl ⟨by rfl, ?_⟩) hHeld ?_
                  rotate_left
                  · intro w hSw
                    (try dsimp only at hSw)
                    go_simp
                    (try with_reducible rfl)
                  (try simp only [Act.put, List.setIfInBounds_toArray, List.set_cons_zero, List.set_cons_succ])
                  refine wpAnyH_ready (rs := [51]) (by kernel_rfl) (by simp) ?_
                  refine AllReadyH.cons (o := ⟨none, .store 24 (.tmp 181) (.tmp 180), _, _, _, none⟩) rfl (fun K hK => ?_) ?_
                  rotate_left
                  · exact AllReadyH.nil
                  go_simp
                  refine hK.out _ _ (KP.out _ (HB54.out.setCell (p := ⟨u, 1, none⟩) HUle.out _)) (fun hHeld => ?_)
                  clear hK K
                  (try simp only [Act.put, List.setIfInBounds_toArray, List.set_cons_zero, List.set_cons_succ])
                  refine wpAnyH_done (by kernel_rfl) ?_ _
                  have HB5 := Lib.hid ((Below.grown HBX.out hl5.2.1 HBX.out.size (fun k hk => (own_lt HRT.out.tasks hk).1)).setCell (p := ⟨u, 1, none⟩) (by rw [HUG.out]; exact Nat.le_refl _) (.slice A5 (tl.length + 1) c5))
                  have HAP5 := Lib.hid (HRT.out.task (by simp; omega) hl5 (.slice A5 (tl.length + 1) c5))
                  rw [← HUG.out] at HAP5
                  have HL65 := Lib.hid (L5.here 1 (.slice A5 (tl.length + 1) c5))
                  have HL75 := Lib.hid ((lies_longerK HL7X.out hl5 HTU1'.out).there (a := ⟨u, 1, none⟩) (show u + 1 ≠ u by omega) (.slice A5 (tl.length + 1) c5))
                  have HLA5 := Lib.hid ((lies_longerK HLAX.out hl5 HTP.out).there (a := ⟨u, 1, none⟩) (show p ≠ u by omega) (.slice A5 (tl.length + 1) c5))
                  clear hl5 L5 D3 F3 d4 d5 HB54 hHeld
                  generalize w5.setCell ⟨u, 1, none⟩ (.slice A5 (tl.length + 1) c5) = W6 at HB5 HAP5 HL65 HL75 HLA5 ⊢
                  have z0 : W6.cell? ⟨p, 0, none⟩ = some (.int .i64 (e.kind : Nat)) := (HLA5.out.cell 0).trans rfl
                  have z1 : W6.cell? ⟨p, 1, none⟩ = some (.string ⟨e.text.toArray⟩) := (HLA5.out.cell 1).trans rfl
                  have z2 : W6.cell? ⟨p, 2, none⟩ = some (.int .i64 (e.value : Nat)) := (HLA5.out.cell 2).trans rfl
                  have z3 : W6.cell? ⟨p, 3, none⟩ = some (.int .i64 (e.line : Nat)) := (HLA5.out.cell 3).trans rfl
                  have z4 : W6.cell? ⟨p, 4, none⟩ = some (.int .i64 (e.col : Nat)) := (HLA5.out.cell 4).trans rfl
                  have HLT : Hid (∀ W', Below W6.heap.size W6 W' → ∀ rem', runB ts [] = runT b rem' [] (hs ++ [t0]) (tl ++ [q]) → (tl ++ [q]).length + rem'.length ≤ ts.length + 1 → Later U ts rem' (.slice A3 (hs.length + 1) c3) (.int .i64 ((N : Int) + 1)) W') := fun W' hW' rem' h1 h2 =>
                    ⟨b, hs ++ [t0], tl ++ [q], .slice A5 (tl.length + 1) c5, h1, by simp [HHL.out], h2, by rw [HN.out]; simp, by rw [← HUG.out]; exact (show Lies W' u 26 #[.int .i64 (b.value : Nat), .slice A5 (tl.length + 1) c5] from (by simpa using HL65.out.below hW' HL65.out.lt)), by rw [← HUG.out]; exact HL75.out.below hW' HL75.out.lt, HAP5.out.on hW'⟩
                  rcases HLINE.out.ends with hk3 | hk4
                  · have q4 : ((e.kind : Int) == 4) = false := by rw [hk3]; rfl
                    have HK3 := Lib.hid hk3
                    have hE := (ended_at HLEFT.out.ended HLINE.out.at_).2 (by rw [hk3]; decide)
                    have HE := Lib.hid hE
                    have HLT2 := Lib.hid (HLT.out W6 (Below.refl _ _) (rem.drop (i + 1)) (by rw [HQ.out, HR3.out HK3.out, HT0.out, HQT.out, HI12.out]) (by simp; omega))
                    clear hk3 hE
                    go_wp2
                    go_roundw
                    case rel => exact ⟨rem.drop (i + 1), A2, c2, by rw [hn2], ⟨.inl HHELD.out, hc2, HE.out, fun t ht => HLEFT.out.fair t (List.mem_of_mem_drop ht), by omega, HB5.out⟩, .inr HLT2.out⟩
                    case measure => simp only [lenV]; omega
                  · have q4 : ((e.kind : Int) == 4) = true := by rw [hk4]; rfl
                    have HK4 := Lib.hid hk4
                    clear hk4
                    have HTK : Hid (Toks (W6.alloc (.cells #[.int .i64 (e.kind : Nat), .string ⟨e.text.toArray⟩, .int .i64 (e.value : Nat), .int .i64 (e.line : Nat), .int .i64 (e.col : Nat)] 45)) (some ⟨W6.heap.size, 0, none⟩) [e]) := toks_one (Lies.made _ _ _)
                    have HLT2 := Lib.hid (HLT.out _ (below_new W6 (.cells #[.int .i64 (e.kind : Nat), .string ⟨e.text.toArray⟩, .int .i64 (e.value : Nat), .int .i64 (e.line : Nat), .int .i64 (e.col : Nat)] 45)) [e] (by rw [HQ.out, HR4.out HK4.out, HT0.out, HQT.out]) (by simp; omega))
                    have HFE := Lib.hid (HLEFT.out.fair e (List.mem_of_getElem? HLINE.out.at_))
                    have HBE := Lib.hid (HB5.out.alloc HB5.out.size (.cells #[.int .i64 (e.kind : Nat), .string ⟨e.text.toArray⟩, .int .i64 (e.value : Nat), .int .i64 (e.line : Nat), .int .i64 (e.col : Nat)] 45))
                    have h1r : 1 < rem.length := by omega
                    go_upto_region 37 with fail
                    go_wp2_with (refine wpList_build_tok rfl (.tmp 185) rfl (.int .i64 (e.kind : Nat)) (.string ⟨e.text.toArray⟩) (.int .i64 (e.value : Nat)) (.int .i64 (e.line : Nat)) (.int .i64 (e.col : Nat)) (by rfl) ?_)
                    go_roundw
                    case rel => exact ⟨[e], some ⟨W6.heap.size, 0, none⟩, 1, rfl, ⟨.inr ⟨Nat.le_refl _, HTK.out⟩, Nat.le_refl _, .inl ⟨HK4.out, rfl⟩, fun t ht => by rw [List.mem_singleton.1 ht]; exact HFE.out, (show 1 ≤ ts.length by omega), HBE.out⟩, .inr HLT2.out⟩
                    case measure => simp only [lenV]; omega
                refine AllReadyH.cons (o := ⟨(some 178), _, _, _, _, none⟩) rfl (fun K hK => ?_) ?_
                · refine step_build40 rfl (.tmp 136) (.tmp 140) (.tmp 144) (.tmp 148) (.tmp 153) (.tmp 157) (.tmp 161) (.tmp 165) (.tmp 169) (.tmp 173) (.tmp 177) rfl q (by rfl) (by rfl) (by rfl) (by rfl) (by rfl) (by rfl) (by rfl) (by rfl) (by rfl) (by rfl) (by rfl) ?_
                  refine hK.out _ _ (KP.out _ HXX.out) (fun hHeld => ?_)
                  clear hK K
                  (try simp only [Act.put, List.setIfInBounds_toArray, List.set_cons_zero, List.set_cons_succ])
                  refine wpAnyH_ready (rs := [1, 48]) (by kernel_rfl) (by simp) ?_
                  refine AllReadyH.cons (o := ⟨(some 132), .load 24 (.tmp 131), _, _, _, none⟩) rfl (fun K hK => ?_) ?_
                  · go_simp
                    refine hK.out _ _ (KP.out _ HXX.out) (fun hHeld => ?_)
                    clear hK K
                    (try simp only [Act.put, List.setIfInBounds_toArray, List.set_cons_zero, List.set_cons_succ])
                    refine wpAnyH_ready (rs := [48]) (by kernel_rfl) (by simp) ?_
                    refine AllReadyH.cons (o := ⟨(some 179), _, _, _, _, none⟩) rfl (fun K hK => ?_) ?_
                    rotate_left
                    · exact AllReadyH.nil
                    refine step_build_task rfl (.tmp 178) rfl q (by rfl) ?_
                    refine hK.out _ _ (KP.out _ HXN.out) (fun hHeld => ?_)
                    clear hK K
                    (try simp only [Act.put, List.setIfInBounds_toArray, List.set_cons_zero, List.set_cons_succ])
                    refine wpAnyH_ready (rs := [49]) (by kernel_rfl) (by simp) ?_
                    refine AllReadyH.cons (o := ⟨(some 180), _, _, _, _, none⟩) rfl (fun K hK => ?_) ?_
                    rotate_left
                    · exact AllReadyH.nil
                    refine step_append_task rfl (.tmp 132) (.tmp 179) rfl U.heap.size tl.length 1 (tl.length + 1) X.heap.size (.slice AT tl.length cT) tl q (by rfl) (by rfl) HRT.out.tasks (Lies.made X 40 _) rfl hll HXS.out ?_
                    intro A5 c5 w5 hl5
                    have L5 := lies_longerK HRL.out hl5 HTU'.out
                    have HB54 := Lib.hid (Below.grown HXN.out hl5.2.1 HXS.out (fun k hk => (own_lt HRT.out.tasks hk).1))
                    have D3 : w5.cell? ⟨u, 1, none⟩ = some (.slice AT tl.length cT) := (L5.cell 1).trans rfl
                    have F3 := L5.thawed 1
                    refine hK.out _ _ (KP.out _ HB54.out) (fun hHeld => ?_)
                    clear hK K
                    (try simp only [Act.put, List.setIfInBounds_toArray, List.set_cons_zero, List.set_cons_succ])
                    refine wpAnyH_take (i := 50) (oi := ⟨(some 181), .fieldAddr 26 (.tmp 6) 1, _, _, _, none⟩) (v := ?_) rfl (by kernel_rfl) (by kernel_rfl) (by kernel_rfl) (fun _ _ _ h => h) (Or.inl ⟨by rfl, ?_⟩) hHeld ?_
                    rotate_left
                    · intro w hSw
                      (try dsimp only at hSw)
                      go_simp
                      (try with_reducible rfl)
                    (try simp only [Act.put, List.setIfInBounds_toArray, List.set_cons_zero, List.set_cons_succ])
                    refine wpAnyH_ready (rs := [51]) (by kernel_rfl) (by simp) ?_
                    refine AllReadyH.cons (o := ⟨none, .store 24 (.tmp 181) (.tmp 180), _, _, _, none⟩) rfl (fun K hK => ?_) ?_
                    rotate_left
                    · exact AllReadyH.nil
                    go_simp
                    refine hK.out _ _ (KP.out _ (HB54.out.setCell (p := ⟨u, 1, none⟩) HUle.out _)) (fun hHeld => ?_)
                    clear hK K
                    (try simp only [Act.put, List.setIfInBounds_toArray, List.set_cons_zero, List.set_cons_succ])
                    refine wpAnyH_done (by kernel_rfl) ?_ _
                    have HB5 := Lib.hid ((Below.grown HBX.out hl5.2.1 HBX.out.size (fun k hk => (own_lt HRT.out.tasks hk).1)).setCell (p := ⟨u, 1, none⟩) (by rw [HUG.out]; exact Nat.le_refl _) (.slice A5 (tl.length + 1) c5))
                    have HAP5 := Lib.hid (HRT.out.task (by simp; omega) hl5 (.slice A5 (tl.length + 1) c5))
                    rw [← HUG.out] at HAP5
                    have HL65 := Lib.hid (L5.here 1 (.slice A5 (tl.length + 1) c5))
                    have HL75 := Lib.hid ((lies_longerK HL7X.out hl5 HTU1'.out).there (a := ⟨u, 1, none⟩) (show u + 1 ≠ u by omega) (.slice A5 (tl.length + 1) c5))
                    have HLA5 := Lib.hid ((lies_longerK HLAX.out hl5 HTP.out).there (a := ⟨u, 1, none⟩) (show p ≠ u by omega) (.slice A5 (tl.length + 1) c5))
                    clear hl5 L5 D3 F3 d4 d5 HB54 hHeld
                    generalize w5.setCell ⟨u, 1, none⟩ (.slice A5 (tl.length + 1) c5) = W6 at HB5 HAP5 HL65 HL75 HLA5 ⊢
                    have z0 : W6.cell? ⟨p, 0, none⟩ = some (.int .i64 (e.kind : Nat)) := (HLA5.out.cell 0).trans rfl
                    have z1 : W6.cell? ⟨p, 1, none⟩ = some (.string ⟨e.text.toArray⟩) := (HLA5.out.cell 1).trans rfl
                    have z2 : W6.cell? ⟨p, 2, none⟩ = some (.int .i64 (e.value : Nat)) := (HLA5.out.cell 2).trans rfl
                    have z3 : W6.cell? ⟨p, 3, none⟩ = some (.int .i64 (e.line : Nat)) := (HLA5.out.cell 3).trans rfl
                    have z4 : W6.cell? ⟨p, 4, none⟩ = some (.int .i64 (e.col : Nat)) := (HLA5.out.cell 4).trans rfl
                    have HLT : Hid (∀ W', Below W6.heap.size W6 W' → ∀ rem', runB ts [] = runT b rem' [] (hs ++ [t0]) (tl ++ [q]) → (tl ++ [q]).length + rem'.length ≤ ts.length + 1 → Later U ts rem' (.slice A3 (hs.length + 1) c3) (.int .i64 ((N : Int) + 1)) W') := fun W' hW' rem' h1 h2 =>
                      ⟨b, hs ++ [t0], tl ++ [q], .slice A5 (tl.length + 1) c5, h1, by simp [HHL.out], h2, by rw [HN.out]; simp, by rw [← HUG.out]; exact (show Lies W' u 26 #[.int .i64 (b.value : Nat), .slice A5 (tl.length + 1) c5] from (by simpa using HL65.out.below hW' HL65.out.lt)), by rw [← HUG.out]; exact HL75.out.below hW' HL75.out.lt, HAP5.out.on hW'⟩
                    rcases HLINE.out.ends with hk3 | hk4
                    · have q4 : ((e.kind : Int) == 4) = false := by rw [hk3]; rfl
                      have HK3 := Lib.hid hk3
                      have hE := (ended_at HLEFT.out.ended HLINE.out.at_).2 (by rw [hk3]; decide)
                      have HE := Lib.hid hE
                      have HLT2 := Lib.hid (HLT.out W6 (Below.refl _ _) (rem.drop (i + 1)) (by rw [HQ.out, HR3.out HK3.out, HT0.out, HQT.out, HI12.out]) (by simp; omega))
                      clear hk3 hE
                      go_wp2
                      go_roundw
                      case rel => exact ⟨rem.drop (i + 1), A2, c2, by rw [hn2], ⟨.inl HHELD.out, hc2, HE.out, fun t ht => HLEFT.out.fair t (List.mem_of_mem_drop ht), by omega, HB5.out⟩, .inr HLT2.out⟩
                      case measure => simp only [lenV]; omega
                    · have q4 : ((e.kind : Int) == 4) = true := by rw [hk4]; rfl
                      have HK4 := Lib.hid hk4
                      clear hk4
                      have HTK : Hid (Toks (W6.alloc (.cells #[.int .i64 (e.kind : Nat), .string ⟨e.text.toArray⟩, .int .i64 (e.value : Nat), .int .i64 (e.line : Nat), .int .i64 (e.col : Nat)] 45)) (some ⟨W6.heap.size, 0, none⟩) [e]) := toks_one (Lies.made _ _ _)
                      have HLT2 := Lib.hid (HLT.out _ (below_new W6 (.cells #[.int .i64 (e.kind : Nat), .string ⟨e.text.toArray⟩, .int .i64 (e.value : Nat), .int .i64 (e.line : Nat), .int .i64 (e.col : Nat)] 45)) [e] (by rw [HQ.out, HR4.out HK4.out, HT0.out, HQT.out]) (by simp; omega))
                      have HFE := Lib.hid (HLEFT.out.fair e (List.mem_of_getElem? HLINE.out.at_))
                      have HBE := Lib.hid (HB5.out.alloc HB5.out.size (.cells #[.int .i64 (e.kind : Nat), .string ⟨e.text.toArray⟩, .int .i64 (e.value : Nat), .int .i64 (e.line : Nat), .int .i64 (e.col : Nat)] 45))
                      have h1r : 1 < rem.length := by omega
                      go_upto_region 37 with fail
                      go_wp2_with (refine wpList_build_tok rfl (.tmp 185) rfl (.int .i64 (e.kind : Nat)) (.string ⟨e.text.toArray⟩) (.int .i64 (e.value : Nat)) (.int .i64 (e.line : Nat)) (.int .i64 (e.col : Nat)) (by rfl) ?_)
                      go_roundw
                      case rel => exact ⟨[e], some ⟨W6.heap.size, 0, none⟩, 1, rfl, ⟨.inr ⟨Nat.le_refl _, HTK.out⟩, Nat.le_refl _, .inl ⟨HK4.out, rfl⟩, fun t ht => by rw [List.mem_singleton.1 ht]; exact HFE.out, (show 1 ≤ ts.length by omega), HBE.out⟩, .inr HLT2.out⟩
                      case measure => simp only [lenV]; omega
                  refine AllReadyH.cons (o := ⟨(some 179), _, _, _, _, none⟩) rfl (fun K hK => ?_) ?_
                  · refine step_build_task rfl (.tmp 178) rfl q (by rfl) ?_
                    refine hK.out _ _ (KP.out _ HXN.out) (fun hHeld => ?_)
                    clear hK K
                    (try simp only [Act.put, List.setIfInBounds_toArray, List.set_cons_zero, List.set_cons_succ])
                    refine wpAnyH_ready (rs := [1]) (by kernel_rfl) (by simp) ?_
                    refine AllReadyH.cons (o := ⟨(some 132), .load 24 (.tmp 131), _, _, _, none⟩) rfl (fun K hK => ?_) ?_
                    rotate_left
                    · exact AllReadyH.nil
                    go_simp
                    refine hK.out _ _ (KP.out _ HXN.out) (fun hHeld => ?_)
                    clear hK K
                    (try simp only [Act.put, List.setIfInBounds_toArray, List.set_cons_zero, List.set_cons_succ])
                    refine wpAnyH_ready (rs := [49]) (by kernel_rfl) (by simp) ?_
                    refine AllReadyH.cons (o := ⟨(some 180), _, _, _, _, none⟩) rfl (fun K hK => ?_) ?_
                    rotate_left
                    · exact AllReadyH.nil
                    refine step_append_task rfl (.tmp 132) (.tmp 179) rfl U.heap.size tl.length 1 (tl.length + 1) X.heap.size (.slice AT tl.length cT) tl q (by rfl) (by rfl) HRT.out.tasks (Lies.made X 40 _) rfl hll HXS.out ?_
                    intro A5 c5 w5 hl5
                    have L5 := lies_longerK HRL.out hl5 HTU'.out
                    have HB54 := Lib.hid (Below.grown HXN.out hl5.2.1 HXS.out (fun k hk => (own_lt HRT.out.tasks hk).1))
                    have D3 : w5.cell? ⟨u, 1, none⟩ = some (.slice AT tl.length cT) := (L5.cell 1).trans rfl
                    have F3 := L5.thawed 1
                    refine hK.out _ _ (KP.out _ HB54.out) (fun hHeld => ?_)
                    clear hK K
                    (try simp only [Act.put, List.setIfInBounds_toArray, List.set_cons_zero, List.set_cons_succ])
                    refine wpAnyH_take (i := 50) (oi := ⟨(some 181), .fieldAddr 26 (.tmp 6) 1, _, _, _, none⟩) (v := ?_) rfl (by kernel_rfl) (by kernel_rfl) (by kernel_rfl) (fun _ _ _ h => h) (Or.inl ⟨by rfl, ?_⟩) hHeld ?_
                    rotate_left
                    · intro w hSw
                      (try dsimp only at hSw)
                      go_simp
                      (try with_reducible rfl)
                    (try simp only [Act.put, List.setIfInBounds_toArray, List.set_cons_zero, List.set_cons_succ])
                    refine wpAnyH_ready (rs := [51]) (by kernel_rfl) (by simp) ?_
                    refine AllReadyH.cons (o := ⟨none, .store 24 (.tmp 181) (.tmp 180), _, _, _, none⟩) rfl (fun K hK => ?_) ?_
                    rotate_left
                    · exact AllReadyH.nil
                    go_simp
                    refine hK.out _ _ (KP.out _ (HB54.out.setCell (p := ⟨u, 1, none⟩) HUle.out _)) (fun hHeld => ?_)
                    clear hK K
                    (try simp only [Act.put, List.setIfInBounds_toArray, List.set_cons_zero, List.set_cons_succ])
                    refine wpAnyH_done (by kernel_rfl) ?_ _
                    have HB5 := Lib.hid ((Below.grown HBX.out hl5.2.1 HBX.out.size (fun k hk => (own_lt HRT.out.tasks hk).1)).setCell (p := ⟨u, 1, none⟩) (by rw [HUG.out]; exact Nat.le_refl _) (.slice A5 (tl.length + 1) c5))
                    have HAP5 := Lib.hid (HRT.out.task (by simp; omega) hl5 (.slice A5 (tl.length + 1) c5))
                    rw [← HUG.out] at HAP5
                    have HL65 := Lib.hid (L5.here 1 (.slice A5 (tl.length + 1) c5))
                    have HL75 := Lib.hid ((lies_longerK HL7X.out hl5 HTU1'.out).there (a := ⟨u, 1, none⟩) (show u + 1 ≠ u by omega) (.slice A5 (tl.length + 1) c5))
                    have HLA5 := Lib.hid ((lies_longerK HLAX.out hl5 HTP.out).there (a := ⟨u, 1, none⟩) (show p ≠ u by omega) (.slice A5 (tl.length + 1) c5))
                    clear hl5 L5 D3 F3 d4 d5 HB54 hHeld
                    generalize w5.setCell ⟨u, 1, none⟩ (.slice A5 (tl.length + 1) c5) = W6 at HB5 HAP5 HL65 HL75 HLA5 ⊢
                    have z0 : W6.cell? ⟨p, 0, none⟩ = some (.int .i64 (e.kind : Nat)) := (HLA5.out.cell 0).trans rfl
                    have z1 : W6.cell? ⟨p, 1, none⟩ = some (.string ⟨e.text.toArray⟩) := (HLA5.out.cell 1).trans rfl
                    have z2 : W6.cell? ⟨p, 2, none⟩ = some (.int .i64 (e.value : Nat)) := (HLA5.out.cell 2).trans rfl
                    have z3 : W6.cell? ⟨p, 3, none⟩ = some (.int .i64 (e.line : Nat)) := (HLA5.out.cell 3).trans rfl
                    have z4 : W6.cell? ⟨p, 4, none⟩ = some (.int .i64 (e.col : Nat)) := (HLA5.out.cell 4).trans rfl
                    have HLT : Hid (∀ W', Below W6.heap.size W6 W' → ∀ rem', runB ts [] = runT b rem' [] (hs ++ [t0]) (tl ++ [q]) → (tl ++ [q]).length + rem'.length ≤ ts.length + 1 → Later U ts rem' (.slice A3 (hs.length + 1) c3) (.int .i64 ((N : Int) + 1)) W') := fun W' hW' rem' h1 h2 =>
                      ⟨b, hs ++ [t0], tl ++ [q], .slice A5 (tl.length + 1) c5, h1, by simp [HHL.out], h2, by rw [HN.out]; simp, by rw [← HUG.out]; exact (show Lies W' u 26 #[.int .i64 (b.value : Nat), .slice A5 (tl.length + 1) c5] from (by simpa using HL65.out.below hW' HL65.out.lt)), by rw [← HUG.out]; exact HL75.out.below hW' HL75.out.lt, HAP5.out.on hW'⟩
                    rcases HLINE.out.ends with hk3 | hk4
                    · have q4 : ((e.kind : Int) == 4) = false := by rw [hk3]; rfl
                      have HK3 := Lib.hid hk3
                      have hE := (ended_at HLEFT.out.ended HLINE.out.at_).2 (by rw [hk3]; decide)
                      have HE := Lib.hid hE
                      have HLT2 := Lib.hid (HLT.out W6 (Below.refl _ _) (rem.drop (i + 1)) (by rw [HQ.out, HR3.out HK3.out, HT0.out, HQT.out, HI12.out]) (by simp; omega))
                      clear hk3 hE
                      go_wp2
                      go_roundw
                      case rel => exact ⟨rem.drop (i + 1), A2, c2, by rw [hn2], ⟨.inl HHELD.out, hc2, HE.out, fun t ht => HLEFT.out.fair t (List.mem_of_mem_drop ht), by omega, HB5.out⟩, .inr HLT2.out⟩
                      case measure => simp only [lenV]; omega
                    · have q4 : ((e.kind : Int) == 4) = true := by rw [hk4]; rfl
                      have HK4 := Lib.hid hk4
                      clear hk4
                      have HTK : Hid (Toks (W6.alloc (.cells #[.int .i64 (e.kind : Nat), .string ⟨e.text.toArray⟩, .int .i64 (e.value : Nat), .int .i64 (e.line : Nat), .int .i64 (e.col : Nat)] 45)) (some ⟨W6.heap.size, 0, none⟩) [e]) := toks_one (Lies.made _ _ _)
                      have HLT2 := Lib.hid (HLT.out _ (below_new W6 (.cells #[.int .i64 (e.kind : Nat), .string ⟨e.text.toArray⟩, .int .i64 (e.value : Nat), .int .i64 (e.line : Nat), .int .i64 (e.col : Nat)] 45)) [e] (by rw [HQ.out, HR4.out HK4.out, HT0.out, HQT.out]) (by simp; omega))
                      have HFE := Lib.hid (HLEFT.out.fair e (List.mem_of_getElem? HLINE.out.at_))
                      have HBE := Lib.hid (HB5.out.alloc HB5.out.size (.cells #[.int .i64 (e.kind : Nat), .string ⟨e.text.toArray⟩, .int .i64 (e.value : Nat), .int .i64 (e.line : Nat), .int .i64 (e.col : Nat)] 45))
                      have h1r : 1 < rem.length := by omega
                      go_upto_region 37 with fail
                      go_wp2_with (refine wpList_build_tok rfl (.tmp 185) rfl (.int .i64 (e.kind : Nat)) (.string ⟨e.text.toArray⟩) (.int .i64 (e.value : Nat)) (.int .i64 (e.line : Nat)) (.int .i64 (e.col : Nat)) (by rfl) ?_)
                      go_roundw
                      case rel => exact ⟨[e], some ⟨W6.heap.size, 0, none⟩, 1, rfl, ⟨.inr ⟨Nat.le_refl _, HTK.out⟩, Nat.le_refl _, .inl ⟨HK4.out, rfl⟩, fun t ht => by rw [List.mem_singleton.1 ht]; exact HFE.out, (show 1 ≤ ts.length by omega), HBE.out⟩, .inr HLT2.out⟩
                      case measure => simp only [lenV]; omega
                  exact AllReadyH.nil
                exact AllReadyH.nil
              exact AllReadyH.nil
  · have HANS := Lib.hid (show setA l = ((0, []), (lex l).2) from if_neg hE)
    obtain ⟨E, hEe⟩ : ∃ E, E = (lex l).2.1 := ⟨_, rfl⟩
    rw [← hEe] at hE ⊢
    have q : ((E : Int) != 0) = true := by simp; omega
    have HEE := Lib.hid hEe
    clear hEe hE
    generalize hL1 : (lex l).2.2.1 = L1
    generalize hC1 : (lex l).2.2.2 = C1
    have HL1 := Lib.hid hL1
    have HC1' := Lib.hid hC1
    clear hL1 hC1
    go_upto_region 3 with fail
    obtain ⟨r, hr⟩ : ∃ r, r = w.heap.size := ⟨_, rfl⟩
    obtain ⟨s, hs⟩ : ∃ s, s = w1.heap.size := ⟨_, rfl⟩
    have hrs : r + 2 ≤ s := by
      have h1 := HC1.out.lt
      omega
    generalize hV : w1.alloc (.cells #[.int .i64 (E : Int), .int .i64 (L1 : Int), .int .i64 (C1 : Int)] 29) = V
    have HAV : Hid (Lies V r 26 #[.int .i64 0, .slice none 0 0]) := by rw [← hV, hr]; exact HA1.out.alloc _
    have HCV : Hid (Lies V (r + 1) 29 #[.int .i64 0, .int .i64 0, .int .i64 0]) := by rw [← hV, hr]; exact HC1.out.alloc _
    have HXV : Hid (Lies V s 29 #[.int .i64 (E : Int), .int .i64 (L1 : Int), .int .i64 (C1 : Int)]) := by rw [← hV, hs]; exact Lies.made _ _ _
    have HBV : Hid (Below r w V) := by rw [← hV, hr]; exact HB1.out.alloc HB1.out.size _
    obtain ⟨s0, s1, p0, p1, p2, f0, f1, g0, g1, g2⟩ := rooms HAV.out HCV.out
    have x0 : V.cell? ⟨s, 0, none⟩ = some (.int .i64 (E : Int)) := (HXV.out.cell 0).trans rfl
    have x1 : V.cell? ⟨s, 1, none⟩ = some (.int .i64 (L1 : Int)) := (HXV.out.cell 1).trans rfl
    have x2 : V.cell? ⟨s, 2, none⟩ = some (.int .i64 (C1 : Int)) := (HXV.out.cell 2).trans rfl
    have n1 : s ≠ r := by omega
    have n2 : s ≠ r + 1 := by omega
    rw [← hr, ← hs]
    have HRR := Lib.hid hr
    clear hV hr hs
    go_region
    all_goals
      go_wp2
      (try simp only [Exit.inBlock, Exit.then])
      refine bodyPost_ret (results_set rfl _ _ r (r + 1) _ _ rfl rfl ((stored_set HAV.out (.int .i64 0) (.slice none 0 0) (.int .i64 (E : Int)) (.int .i64 (L1 : Int)) (.int .i64 (C1 : Int))).drewN _) ((stored_spot HCV.out (.int .i64 0) (.slice none 0 0) (.int .i64 (E : Int)) (.int .i64 (L1 : Int)) (.int .i64 (C1 : Int))).drewN _) rfl rfl) rfl ?_
      refine parsed_zero (s := (E, L1, C1)) ?_ ?_
      · rw [HANS.out, HEE.out, ← HL1.out, ← HC1'.out]
      · rw [← HRR.out]
        exact below_drewN (stored_below HBV.out (Nat.le_refl _) (.int .i64 0) (.slice none 0 0) (.int .i64 (E : Int)) (.int .i64 (L1 : Int)) (.int .i64 (C1 : Int))) _
end Go.Proofs.Yteolepmopajamaa
