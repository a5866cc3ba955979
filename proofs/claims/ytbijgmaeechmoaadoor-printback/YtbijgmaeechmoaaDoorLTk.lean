/- The program's tokens of a text. -/
import Derived.Test.YtbijgmaeechmoaaDoorLSs
import Derived.Test.YtbijgmaeechmoaaDoorLPe
namespace Go.Proofs.YtbijgmaeechmoaaDoor.Lx
open Go.RowKit
set_option maxRecDepth 100000

def spotV (s : Nat × Nat × Nat) : Value := .agg #[.int .i64 (s.1 : Int), .int .i64 (s.2.1 : Int), .int .i64 (s.2.2 : Int)]
/-- The tokens of l, or what is wrong, in new memory. -/
def Lexed (l : List UInt8) (w : World) (e : Ending) (w' : World) : Prop :=
  ∃ A c, e = .returned (.tuple #[.slice A (ans l).length c, spotV (lex l).2]) ∧ (ans l).length ≤ c ∧ Toks w' A (ans l) ∧ (∀ x, A = some x → w.heap.size ≤ x.block) ∧ Below w.heap.size w w'

/-- Where the reader at g stands. -/
def placeOf (g : Nat) (W : World) : Nat := match W.cell? ⟨g, 1, none⟩ with | some (.int _ k) => k.toNat | _ => 0
theorem Rdr.place {w0 w : World} {g : Nat} {a : Option Addr} {len cap i line beg : Nat} {ts : List Tok} (h : Rdr w0 g a len cap i line beg ts w) : placeOf g w = i := by
  unfold placeOf; rw [h.c1]; simp
def TokRel (l : List UInt8) (w0 : World) (g : Nat) (a : Option Addr) (cap : Nat) (W : World) : Prop :=
  ∃ ts i line beg, Goes l ts i line beg ∧ Rdr w0 g a l.length cap i line beg ts W

theorem put_last (l : List UInt8) (w0 : World) (g cap line beg : Nat) (a : Option Addr) (ts : List Tok) {w : World} (hl : l.length ≤ 1000000) (hbi : beg ≤ l.length) (hts : ts.length ≤ 1000000)
    (hb : Bytes w0 a cap l) (h : Rdr w0 g a l.length cap l.length line beg ts w) :
    Calls Tryd.prog 39 #[.pointer (some ⟨g, 0, none⟩), .int .i64 4, .int .i64 0, .int .i64 0] w (Puts w0 g a l.length cap l.length line beg (ts ++ [⟨4, [], 0, line, l.length - beg + 1⟩])) := by
  by_cases hc : cap = l.length
  · subst hc
    exact put_end w0 g l.length line beg a ts 4 0 hl hbi hts h
  · have hlt : l.length < cap := by have := hb.le; omega
    obtain ⟨b, off, rfl, _, _⟩ := hb.at_ (by omega)
    have := put_some l w0 g b off cap l.length line beg ts 4 0 0 hl (by omega) hlt hbi hts hb h
    rw [List.take_zero] at this
    exact this

theorem news (w : World) (a : Option Addr) (len cap : Nat) (o : Obj) : Rdr (w.alloc o) (w.heap.size + 1) a len cap 0 1 0 [] ((w.alloc o).alloc (.cells #[.slice a len cap, .int .i64 0, .int .i64 1, .int .i64 0, .slice none 0 0] 74)) := by
  refine ⟨(Below.refl _ _).alloc (Nat.le_refl _) _, by simp, .slice none 0 0, ?_, World.ownsRow_nil _ _ _ _, fun e => by cases e⟩
  have := Lies.made (w.alloc o) 74 #[.slice a len cap, .int .i64 0, .int .i64 1, .int .i64 0, .slice none 0 0]
  simpa using this

theorem results_spot {fn : Func} (h : fn.results = #[.tmp 2, .cell 3 37]) (tmps : Array Value) (w : World) (g : Nat) (cs : Array Value) (hp : tmps.getD 3 undef = .pointer (some ⟨g, 0, none⟩)) (hL : Lies w g 37 cs) (hs : cs.size = 3) :
    (results fn tmps).run Tryd.prog w = .ok (.tuple #[tmps.getD 2 undef, .agg cs]) w := by
  have hp' : tmps[3]?.getD undef = .pointer (some ⟨g, 0, none⟩) := by simpa using hp
  simp [results, h, hp', asAddr, run_loadVar_row (P := Tryd.prog) w g 37 37 cs (0, 0) _ hL Tryd.underlying37 rfl (by rw [hs]; rfl)]
theorem lies_spot {w : World} {g : Nat} (h : Lies w g 37 #[.int .i64 0, .int .i64 0, .int .i64 0]) (u0 u1 u2 : Value) : Lies (((w.setCell ⟨g, 0, none⟩ u0).setCell ⟨g, 1, none⟩ u1).setCell ⟨g, 2, none⟩ u2) g 37 #[u0, u1, u2] := by
  have := ((h.here 0 u0).here 1 u1).here 2 u2
  simpa using this
theorem lexed_bad {l : List UInt8} {w W : World} {n line C : Nat} (ha : ans l = []) (hs : (lex l).2 = (n, line, C)) (hb : Below w.heap.size w W) :
    Lexed l w (.returned (.tuple #[.slice none 0 0, .agg #[.int .i64 (n : Int), .int .i64 (line : Int), .int .i64 (C : Int)]])) W :=
  ⟨none, 0, by rw [ha, hs]; rfl, by rw [ha]; exact Nat.le_refl _, (by rw [ha]; intro h; cases h), (fun x hx => by cases hx), hb⟩
theorem lexed_good {l : List UInt8} {w W : World} {Z : List Tok} {A : Option Addr} {c : Nat} (h1 : lex l = (Z, 0, 0, 0)) (h2 : ans l = Z) (hc : Z.length ≤ c) (ht : Toks W A Z) (hA : ∀ x, A = some x → w.heap.size ≤ x.block) (hb : Below w.heap.size w W) :
    Lexed l w (.returned (.tuple #[.slice A Z.length c, .agg #[.int .i64 0, .int .i64 0, .int .i64 0]])) W :=
  ⟨A, c, by rw [h2, h1]; rfl, by rw [h2]; exact hc, by rw [h2]; exact ht, hA, hb⟩
theorem below_spot {B g : Nat} {w W : World} (h : Below B w W) (hg : B ≤ g) (u0 u1 u2 : Value) : Below B w (((W.setCell ⟨g, 0, none⟩ u0).setCell ⟨g, 1, none⟩ u1).setCell ⟨g, 2, none⟩ u2) :=
  ((h.setCell (show B ≤ (Addr.mk g 0 none).block from hg) u0).setCell (show B ≤ (Addr.mk g 1 none).block from hg) u1).setCell (show B ≤ (Addr.mk g 2 none).block from hg) u2
/-- Tokens stay where the three cells of a spot are set. -/
theorem Toks.spot {W : World} {A : Option Addr} {Z : List Tok} {g : Nat} {u0 u1 u2 : Value} (h : Toks W A Z) (hA : ∀ x, A = some x → g + 1 ≤ x.block) :
    Toks (((W.setCell ⟨g, 0, none⟩ u0).setCell ⟨g, 1, none⟩ u1).setCell ⟨g, 2, none⟩ u2) A Z := by
  intro h0
  obtain ⟨b, off, rfl, hlt, hc⟩ := h h0
  have hb := hA _ rfl
  have hb' : g + 1 ≤ b := hb
  have hk : (((W.setCell ⟨g, 0, none⟩ u0).setCell ⟨g, 1, none⟩ u1).setCell ⟨g, 2, none⟩ u2).heap[b]? = W.heap[b]? := by
    rw [Below.heap_setCell _ _ _ b (show b ≠ g by omega), Below.heap_setCell _ _ _ b (show b ≠ g by omega), Below.heap_setCell _ _ _ b (show b ≠ g by omega)]
  refine ⟨b, off, rfl, by simpa [World.setCell] using hlt, fun i t hi j v hj => ?_⟩
  have := hc i t hi j v hj
  simpa only [World.cell?, hk] using this

set_option maxRecDepth 100000 in
set_option maxHeartbeats 4000000 in
theorem tokens (l : List UInt8) (a : Option Addr) (cap : Nat) {w : World} (hl : l.length ≤ 1000000) (hb : Bytes w a cap l) :
    Calls Tryd.prog 26 #[.slice a l.length cap] w (Lexed l w) := by
  obtain ⟨W0, hW0⟩ : ∃ W0, W0 = w.alloc (.cells #[.int .i64 0, .int .i64 0, .int .i64 0] 37) := ⟨_, rfl⟩
  have HN := Lib.hid (news w a l.length cap (.cells #[.int .i64 0, .int .i64 0, .int .i64 0] 37))
  have HB0 : Hid (Bytes W0 a cap l) := by rw [hW0]; exact hb.below (Nat.le_refl _) ((Below.refl _ _).alloc (Nat.le_refl _) _)
  have HW : Hid (Below w.heap.size w W0 ∧ W0.heap.size = w.heap.size + 1 ∧ Lies W0 w.heap.size 37 #[.int .i64 0, .int .i64 0, .int .i64 0]) := by
    rw [hW0]
    exact ⟨(Below.refl _ _).alloc (Nat.le_refl _) _, by simp, Lies.made _ _ _⟩
  rw [← hW0] at HN
  clear hb
  go_enter Tryd.func26, Tryd.ntmps26
  go_wp2
  rw [← hW0]
  clear hW0
  go_loopw [5] (fun _ W => TokRel l W0 (w.heap.size + 1) a cap W) (fun _ W => l.length - placeOf (w.heap.size + 1) W)
  case atStart => exact ⟨[], 0, 1, 0, Goes.start l, HN.out⟩
  case round =>
    obtain ⟨ts, i, line, beg, hgo, hr⟩ := hrel
    have c0 := hr.c0
    have c1 := hr.c1
    have hgo' := hgo
    obtain ⟨hil, hbi, _, hli, htl, _⟩ := hgo'
    have HG := Lib.hid hgo
    have HR := Lib.hid hr
    clear hgo hr
    by_cases hlt : i < l.length
    · have t1 : decide ((i : Int) < (l.length : Int)) = true := by simp; omega
      obtain ⟨b, off, rfl, _, _⟩ := HB0.out.at_ (by have := HB0.out.le; omega)
      have KS := Lib.hid (step l W0 (w.heap.size + 1) b off cap i line beg ts hl hlt HG.out HB0.out HR.out)
      go_wp2_with (fail)
      with_reducible refine KS.out.mono ?_
      rintro e w1 (⟨rfl, ts', i', line', beg', hgo', hii, hr'⟩ | ⟨n, hn, rfl, hr', hans, hsp⟩)
      · have HG1 := Lib.hid hgo'
        have HR1 := Lib.hid hr'
        clear hgo' hr'
        go_wp2
        go_roundw
        case rel => exact ⟨ts', i', line', beg', HG1.out, HR1.out⟩
        case measure =>
          rw [HR1.out.place, HR.out.place]
          have := HG1.out.1
          omega
      · have HR1 := Lib.hid hr'
        have d1 := hr'.c1
        have d2 := hr'.c2
        have d3 := hr'.c3
        have KC : Hid (∀ k, Calls Tryd.prog 38 #[.pointer (some ⟨w.heap.size + 1, 0, none⟩)] (w1.drewN k) (Saw (.int .i64 ((i - beg + 1 : Nat) : Int)) (w1.drewN k))) := fun k => col _ i beg hbi (by omega) d1 d3
        have HS : Hid (Lies w1 w.heap.size 37 #[.int .i64 0, .int .i64 0, .int .i64 0]) := by
          unfold Lies; rw [hr'.below.block _ (by rw [HW.out.2.1]; omega)]; exact HW.out.2.2
        have s0 : w1.cell? ⟨w.heap.size, 0, none⟩ = some (.int .i64 0) := (HS.out.cell 0).trans rfl
        have s1 : w1.cell? ⟨w.heap.size, 1, none⟩ = some (.int .i64 0) := (HS.out.cell 1).trans rfl
        have s2 : w1.cell? ⟨w.heap.size, 2, none⟩ = some (.int .i64 0) := (HS.out.cell 2).trans rfl
        have r0 := HS.out.thawed 0
        have r1 := HS.out.thawed 1
        have r2 := HS.out.thawed 2
        have HA := Lib.hid hans
        have HSP := Lib.hid hsp
        have t2 : ((n : Int) != 0) = true := by simp; omega
        generalize i - beg + 1 = C at KC HSP
        clear hr' hans hsp
        go_wp2_with (fail)
        go_region_law (go_simp; go_at_call 38; (refine (KC.out _).mono ?_); rintro e w' ⟨rfl, m, rfl⟩)
        all_goals
          have HBL := Lib.hid (below_spot (below_drewN (HW.out.1.trans (HR1.out.below.mono HW.out.1.size)) (1 + m)) (Nat.le_refl _) (.int .i64 (n : Int)) (.int .i64 (line : Int)) (.int .i64 (C : Int)))
          have HLS := Lib.hid (lies_spot (HS.out.drewN (1 + m)) (.int .i64 (n : Int)) (.int .i64 (line : Int)) (.int .i64 (C : Int)))
          go_wp2
          (try simp only [Exit.inBlock, Exit.then])
          refine bodyPost_ret (results_spot rfl _ _ w.heap.size _ rfl HLS.out rfl) rfl ?_
          exact lexed_bad HA.out HSP.out HBL.out
    · have t1 : decide ((i : Int) < (l.length : Int)) = false := by simp; omega
      have t1' : decide (i < l.length) = false := by simp; omega
      obtain rfl : i = l.length := by omega
      have KP := Lib.hid (put_last l W0 (w.heap.size + 1) cap line beg a ts hl hbi (by omega) HB0.out HR.out)
      have HD := Lib.hid (HG.out.done (Nat.le_refl _))
      generalize l.length - beg + 1 = C at KP HD
      go_wp2_with (fail)
      with_reducible refine KP.out.mono ?_
      rintro e w1 ⟨rfl, hr'⟩
      have HR1 := Lib.hid hr'
      obtain ⟨v, hL, hO, _⟩ := hr'.body
      obtain ⟨A, c, rfl, _, hnc, htk, hbk⟩ := Toks.own hO
      have d4 : w1.cell? ⟨w.heap.size + 1, 4, none⟩ = some (.slice A (ts ++ [(⟨4, [], 0, line, C⟩ : Tok)]).length c) := (hL.cell 4).trans rfl
      have HS : Hid (Lies w1 w.heap.size 37 #[.int .i64 0, .int .i64 0, .int .i64 0]) := by
        unfold Lies; rw [hr'.below.block _ (by rw [HW.out.2.1]; omega)]; exact HW.out.2.2
      have s0 : w1.cell? ⟨w.heap.size, 0, none⟩ = some (.int .i64 0) := (HS.out.cell 0).trans rfl
      have s1 : w1.cell? ⟨w.heap.size, 1, none⟩ = some (.int .i64 0) := (HS.out.cell 1).trans rfl
      have s2 : w1.cell? ⟨w.heap.size, 2, none⟩ = some (.int .i64 0) := (HS.out.cell 2).trans rfl
      have r0 := HS.out.thawed 0
      have r1 := HS.out.thawed 1
      have r2 := HS.out.thawed 2
      have HBL := Lib.hid (below_spot (HW.out.1.trans (HR1.out.below.mono HW.out.1.size)) (Nat.le_refl _) (.int .i64 0) (.int .i64 0) (.int .i64 0))
      have HTK := Lib.hid htk
      have HBK : Hid (∀ x, A = some x → w.heap.size + 1 ≤ x.block) := fun x hx => by have := hbk x hx; rwa [HW.out.2.1] at this
      generalize hZ : ts ++ [(⟨4, [], 0, line, C⟩ : Tok)] = Z at d4 HTK HD hnc
      clear hr' hL hO htk hbk hZ
      have HLS := Lib.hid (lies_spot HS.out (.int .i64 0) (.int .i64 0) (.int .i64 0))
      go_wp2
      (try simp only [Exit.inBlock, Exit.then])
      refine bodyPost_ret (results_spot rfl _ _ w.heap.size _ rfl HLS.out rfl) rfl ?_
      exact lexed_good HD.out.1 HD.out.2 hnc (HTK.out.spot HBK.out) (fun x hx => by have := HBK.out x hx; omega) HBL.out
end Go.Proofs.YtbijgmaeechmoaaDoor.Lx
