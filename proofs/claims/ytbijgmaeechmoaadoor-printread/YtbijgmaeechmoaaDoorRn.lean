/- The reader's steps that write to a place: a name, a mode, numbers. -/
import Derived.Test.YtbijgmaeechmoaaDoorRq
namespace Go.Proofs.YtbijgmaeechmoaaDoor
open Go.RowKit Lx Kx
set_option maxRecDepth 100000

/-- The reader stands at k, and the task at p is these cells; of what was there only these two have turned. -/
def Puts2 (b : Bool) (w0 : World) (g p : Nat) (A : Option Addr) (c : Nat) (ts : List Tok) (x : Rest) (k : Nat) (cs : Array Value) (w : World) (e : Ending) (w' : World) : Prop :=
  e = .returned (.bool b) ∧ Rs w0 g A c ts x k w' ∧ Lies w' p 26 cs ∧ Turns (fun i => i = g ∨ i = p) w w'
section
variable {w0 w : World} {g p : Nat} {A : Option Addr} {c : Nat} {ts : List Tok} {x : Rest} {k : Nat} {t : Tok} {cs : Array Value}
/-- A place is written, and the reader goes on. -/
theorem put_go {w1 : World} {o : Nat} {u : Value} (h : Rs w0 g A c ts x k w1) (hL : Lies w1 p 26 cs) (hp : p ≠ g) (hw : w0.heap.size ≤ p) (hB : Below w.heap.size w w1) (hk : ts[k]? = some t) (ht : t.kind ≠ 4) :
    Rs w0 g A c ts x (k + 1) ((w1.setCell ⟨p, o, none⟩ u).setCell ⟨g, 1, none⟩ (.int .i64 ((k : Int) + 1))) ∧ Lies ((w1.setCell ⟨p, o, none⟩ u).setCell ⟨g, 1, none⟩ (.int .i64 ((k : Int) + 1))) p 26 (cs.setIfInBounds o u) ∧
      Turns (fun i => i = g ∨ i = p) w ((w1.setCell ⟨p, o, none⟩ u).setCell ⟨g, 1, none⟩ (.int .i64 ((k : Int) + 1))) :=
  ⟨(h.there (a := ⟨p, o, none⟩) (fun e => hp e.symm) hw u).go hk ht, (hL.here o u).there (a := ⟨g, 1, none⟩) hp _,
   ((Turns.of_below hB).setCell (a := ⟨p, o, none⟩) (.inr (.inr rfl)) u).setCell (a := ⟨g, 1, none⟩) (.inr (.inl rfl)) _⟩

set_option maxHeartbeats 1000000 in
theorem name_yes {v : Value} (h : Rs w0 g A c ts x k w) (hL : Lies w p 26 cs) (hp : p ≠ g) (hw : w0.heap.size ≤ p) (h0 : cs[0]? = some v) (hk : ts[k]? = some t) (ht : t.kind = 1) :
    Calls Tryd.prog 59 #[.pointer (some ⟨g, 0, none⟩), .pointer (some ⟨p, 0, none⟩)] w (Puts2 true w0 g p A c ts x (k + 1) (cs.setIfInBounds 0 (.string ⟨t.text.toArray⟩)) w) := by
  have KN := Lib.hid (nextIs 1 h hk)
  rw [is_yes (z := 1) ht rfl] at KN
  have KX : Hid (∀ w', Below w.heap.size w w' → Calls Tryd.prog 29 #[.pointer (some ⟨g, 0, none⟩)] w' (Gives t w')) := fun w' hb => next (h.on hb) hk
  have HH := Lib.hid h
  have HK := Lib.hid hk
  have HL := Lib.hid hL
  have H0 := Lib.hid h0
  have hsm := h.small
  have hlt := h.lt
  have F1 := field1 (.int .i64 (t.kind : Nat)) (.string ⟨t.text.toArray⟩) (.int .i64 (t.value : Nat)) (.int .i64 (t.line : Nat)) (.int .i64 (t.col : Nat))
  have HT := Lib.hid ht
  clear h hk hL h0 ht
  go_enter Tryd.func59, Tryd.ntmps59
  go_wp2_with (fail)
  with_reducible refine KN.out.mono ?_
  rintro e w1 ⟨rfl, hb⟩
  have HB := Lib.hid hb
  clear hb
  go_wp2_with (fail)
  with_reducible refine (KX.out _ HB.out).mono ?_
  rintro e w2 ⟨rfl, hb⟩
  have HB2 := Lib.hid (HB.out.trans (hb.mono HB.out.size))
  have H2 := Lib.hid (HH.out.on HB2.out)
  have HL2 := Lib.hid (HL.out.below HB2.out HL.out.lt)
  have p0 : w2.cell? ⟨p, 0, none⟩ = some v := (HL2.out.cell 0).trans H0.out
  have fp := HL2.out.thawed 0
  have c1 := (H2.out.there (a := ⟨p, 0, none⟩) (fun e => hp e.symm) hw (.string ⟨t.text.toArray⟩)).c1
  have f1 := (H2.out.there (a := ⟨p, 0, none⟩) (fun e => hp e.symm) hw (.string ⟨t.text.toArray⟩)).lies.thawed 1
  clear hb
  unfold cellsT
  go_wp2
  go_ret
  exact ⟨rfl, put_go H2.out HL2.out hp hw HB2.out HK.out (by rw [HT.out]; omega)⟩
set_option maxHeartbeats 1000000 in
theorem name_no (h : Rs w0 g A c ts x k w) (hk : ts[k]? = some t) (ht : t.kind ≠ 1) :
    Calls Tryd.prog 59 #[.pointer (some ⟨g, 0, none⟩), .pointer (some ⟨p, 0, none⟩)] w (Stands false w0 g A c ts x k w) := by
  have KN := Lib.hid (nextIs 1 h hk)
  rw [is_no (z := 1) ht rfl] at KN
  have HH := Lib.hid h
  clear h hk
  go_enter Tryd.func59, Tryd.ntmps59
  go_wp2_with (fail)
  with_reducible refine KN.out.mono ?_
  rintro e w1 ⟨rfl, hb⟩
  have HB := Lib.hid hb
  clear hb
  go_wp2
  go_ret
  exact ⟨rfl, HH.out.on HB.out, Turns.of_below HB.out⟩

set_option maxHeartbeats 1000000 in
theorem mode_yes {v : Value} (h : Rs w0 g A c ts x k w) (hL : Lies w p 26 cs) (hp : p ≠ g) (hw : w0.heap.size ≤ p) (h0 : cs[9]? = some v) (hk : ts[k]? = some t) (ht : modeF t.text ≠ 0) (ht4 : t.kind ≠ 4) :
    Calls Tryd.prog 60 #[.pointer (some ⟨g, 0, none⟩), .pointer (some ⟨p, 9, none⟩)] w (Puts2 true w0 g p A c ts x (k + 1) (cs.setIfInBounds 9 (.int .i64 (modeF t.text : Nat))) w) := by
  have KN := Lib.hid (next h hk)
  have KM := Lib.hid (fun w => mode t.text w)
  have HH := Lib.hid h
  have HK := Lib.hid hk
  have HL := Lib.hid hL
  have H0 := Lib.hid h0
  have hsm := h.small
  have hlt := h.lt
  have F1 := field1 (.int .i64 (t.kind : Nat)) (.string ⟨t.text.toArray⟩) (.int .i64 (t.value : Nat)) (.int .i64 (t.line : Nat)) (.int .i64 (t.col : Nat))
  obtain ⟨m, hm⟩ : ∃ m : Int, m = (modeF t.text : Nat) := ⟨_, rfl⟩
  rw [← hm] at KM ⊢
  have q : (m == 0) = false := by
    rw [beq_eq_false_iff_ne]; omega
  clear h hk hL h0 hm ht
  go_enter Tryd.func60, Tryd.ntmps60
  go_wp2_with (fail)
  with_reducible refine KN.out.mono ?_
  rintro e w2 ⟨rfl, hb⟩
  have HB2 := Lib.hid hb
  have H2 := Lib.hid (HH.out.on hb)
  have HL2 := Lib.hid (HL.out.below hb HL.out.lt)
  have p0 : w2.cell? ⟨p, 9, none⟩ = some v := (HL2.out.cell 9).trans H0.out
  have fp := HL2.out.thawed 9
  have c1 := (H2.out.there (a := ⟨p, 9, none⟩) (fun e => hp e.symm) hw (.int .i64 m)).c1
  have f1 := (H2.out.there (a := ⟨p, 9, none⟩) (fun e => hp e.symm) hw (.int .i64 m)).lies.thawed 1
  clear hb
  unfold cellsT
  go_wp2_with (fail)
  with_reducible refine (KM.out _).mono ?_
  rintro e w3 ⟨rfl, rfl⟩
  go_wp2
  go_ret
  exact ⟨rfl, put_go H2.out HL2.out hp hw HB2.out HK.out ht4⟩
set_option maxHeartbeats 1000000 in
theorem mode_no (h : Rs w0 g A c ts x k w) (hk : ts[k]? = some t) (ht : modeF t.text = 0) :
    Calls Tryd.prog 60 #[.pointer (some ⟨g, 0, none⟩), .pointer (some ⟨p, 9, none⟩)] w (Stands false w0 g A c ts x k w) := by
  have KN := Lib.hid (next h hk)
  have KM := Lib.hid (fun w => mode t.text w)
  rw [ht] at KM
  have HH := Lib.hid h
  have F1 := field1 (.int .i64 (t.kind : Nat)) (.string ⟨t.text.toArray⟩) (.int .i64 (t.value : Nat)) (.int .i64 (t.line : Nat)) (.int .i64 (t.col : Nat))
  clear h hk ht
  go_enter Tryd.func60, Tryd.ntmps60
  go_wp2_with (fail)
  with_reducible refine KN.out.mono ?_
  rintro e w2 ⟨rfl, hb⟩
  have HB2 := Lib.hid hb
  clear hb
  unfold cellsT
  go_wp2_with (fail)
  with_reducible refine (KM.out _).mono ?_
  rintro e w3 ⟨rfl, rfl⟩
  go_wp2
  go_ret
  exact ⟨rfl, HH.out.on HB2.out, Turns.of_below HB2.out⟩
end

/-- Numbers are read to their places, as far as there are numbers. -/
def Nums (R : Nat → World → Prop) (ts : List Tok) (k m : Nat) (e : Ending) (w' : World) : Prop :=
  ∃ i, i ≤ m ∧ e = .returned (.bool (decide (i = m))) ∧ R i w' ∧ (∀ j, j < i → ∃ t, ts[k + j]? = some t ∧ t.kind = 2) ∧ (i < m → ∃ t, ts[k + i]? = some t ∧ t.kind ≠ 2)
def NumsRel (R : Nat → World → Prop) (ts : List Tok) (k m : Nat) (v : Value) (W : World) : Prop :=
  ∃ i : Nat, i ≤ m ∧ v = .int .i64 (i : Int) ∧ R i W ∧ ∀ j, j < i → ∃ t, ts[k + j]? = some t ∧ t.kind = 2
/-- What is asked of the places. -/
structure Placed (w0 : World) (g p bs : Nat) (A : Option Addr) (c : Nat) (ts : List Tok) (k : Nat) (os : List Nat) (X : Nat → Rest) (R : Nat → World → Prop) : Prop where
  rs : ∀ i W, R i W → Rs w0 g A c ts (X i) (k + i) W
  on : ∀ i W W', R i W → Below W.heap.size W W' → R i W'
  ptr : ∀ i W o, R i W → os[i]? = some o → W.cell? ⟨bs, i, none⟩ = some (.pointer (some ⟨p, o, none⟩))
  room : ∀ i W o, R i W → os[i]? = some o → (∃ u, W.cell? ⟨p, o, none⟩ = some u) ∧ W.frozen? ⟨p, o, none⟩ = false
  store : ∀ i W o t, R i W → os[i]? = some o → ts[k + i]? = some t → t.kind = 2 →
    (W.setCell ⟨p, o, none⟩ (.int .i64 (t.value : Nat))).cell? ⟨g, 1, none⟩ = some (.int .i64 ((k + i : Nat) : Int)) ∧ (W.setCell ⟨p, o, none⟩ (.int .i64 (t.value : Nat))).frozen? ⟨g, 1, none⟩ = false ∧
      R (i + 1) ((W.setCell ⟨p, o, none⟩ (.int .i64 (t.value : Nat))).setCell ⟨g, 1, none⟩ (.int .i64 (((k + i : Nat) : Int) + 1)))

set_option maxHeartbeats 2000000 in
theorem numbers {w0 w : World} {g p bs : Nat} {A : Option Addr} {c : Nat} {ts : List Tok} {k : Nat} {os : List Nat} {X : Nat → Rest} {R : Nat → World → Prop} (cc : Nat) (hP : Placed w0 g p bs A c ts k os X R) (h : R 0 w) (ho : os.length ≤ 11) :
    Calls Tryd.prog 57 #[.pointer (some ⟨g, 0, none⟩), .slice (some ⟨bs, 0, none⟩) os.length cc] w (Nums R ts k os.length) := by
  have HP := Lib.hid hP
  have HH := Lib.hid h
  clear hP h
  go_enter Tryd.func57, Tryd.ntmps57
  go_wp2
  go_loopw [9] (fun i W => NumsRel R ts k os.length i W) (fun i _ => os.length - (intOf i).toNat)
  case atStart => exact ⟨0, Nat.zero_le _, rfl, HH.out, fun j hj => by omega⟩
  case round =>
    obtain ⟨i, hi, rfl, hr, hj⟩ := hrel
    have HJ := Lib.hid hj
    have HR := Lib.hid hr
    have hs := HP.out.rs i wr hr
    have hlt := hs.lt
    have hsm := hs.small
    obtain ⟨t, hk, _⟩ := hs.tok
    have HK := Lib.hid hk
    by_cases him : i < os.length
    · have t1 : decide ((i : Int) < (os.length : Int)) = true := by simp; omega
      obtain ⟨o, ho'⟩ : ∃ o, os[i]? = some o := ⟨_, List.getElem?_eq_getElem him⟩
      have HO := Lib.hid ho'
      have cp := HP.out.ptr i wr o hr ho'
      by_cases e2 : t.kind = 2
      · have KN := Lib.hid (nextIs 2 hs hk)
        rw [is_yes (z := 2) e2 rfl] at KN
        have KX : Hid (∀ w', Below wr.heap.size wr w' → Calls Tryd.prog 29 #[.pointer (some ⟨g, 0, none⟩)] w' (Gives t w')) := fun w' hb => next (hs.on hb) hk
        have F2 := field2 (.int .i64 (t.kind : Nat)) (.string ⟨t.text.toArray⟩) (.int .i64 (t.value : Nat)) (.int .i64 (t.line : Nat)) (.int .i64 (t.col : Nat))
        have E2 := Lib.hid e2
        clear hj hr hs hk ho' e2
        go_wp2_with (fail)
        with_reducible refine KN.out.mono ?_
        rintro e w1 ⟨rfl, hb⟩
        have HB := Lib.hid hb
        clear hb
        go_wp2_with (fail)
        with_reducible refine (KX.out _ HB.out).mono ?_
        rintro e w2 ⟨rfl, hb⟩
        have HR2 := Lib.hid (HP.out.on i wr w2 HR.out (HB.out.trans (hb.mono HB.out.size)))
        obtain ⟨⟨u, pu⟩, fu⟩ := HP.out.room i w2 o HR2.out HO.out
        obtain ⟨c1, f1, hn⟩ := HP.out.store i w2 o t HR2.out HO.out HK.out E2.out
        have HN := Lib.hid hn
        obtain ⟨K, hK⟩ : ∃ K, K = k + i := ⟨_, rfl⟩
        rw [← hK] at c1 HN hlt
        clear hb hn hK
        unfold cellsT
        go_wp2
        go_roundw
        case rel => exact ⟨i + 1, by omega, by go_num, HN.out, fun j hj' => by
          by_cases hji : j < i
          · exact HJ.out j hji
          · obtain rfl : j = i := by omega
            exact ⟨t, HK.out, E2.out⟩⟩
        case measure => simp [intOf]; omega
      · have KN := Lib.hid (nextIs 2 hs hk)
        rw [is_no (z := 2) e2 rfl] at KN
        clear hj hr hs hk ho'
        go_wp2_with (fail)
        with_reducible refine KN.out.mono ?_
        rintro e w1 ⟨rfl, hb⟩
        have HR2 := Lib.hid (HP.out.on i wr w1 HR.out hb)
        clear hb
        go_wp2
        go_ret
        exact ⟨i, hi, by rw [decide_eq_false (by omega)]; rfl, HR2.out, HJ.out, fun _ => ⟨t, HK.out, e2⟩⟩
    · have t1 : decide ((i : Int) < (os.length : Int)) = false := by simp; omega
      have t1' : decide (i < os.length) = false := by simp; omega
      clear hj hr hs hk
      go_wp2
      go_ret
      exact ⟨i, hi, by rw [decide_eq_true (by omega)]; rfl, HR.out, HJ.out, fun h => absurd h him⟩
theorem numbersN {w0 w : World} {g p bs : Nat} {A : Option Addr} {c : Nat} {ts : List Tok} {k m : Nat} {os : List Nat} {X : Nat → Rest} {R : Nat → World → Prop} (cc : Nat) (hP : Placed w0 g p bs A c ts k os X R) (h : R 0 w) (ho : os.length ≤ 11) (hm : os.length = m) :
    Calls Tryd.prog 57 #[.pointer (some ⟨g, 0, none⟩), .slice (some ⟨bs, 0, none⟩) m cc] w (Nums R ts k m) := by
  subst hm
  exact numbers cc hP h ho
end Go.Proofs.YtbijgmaeechmoaaDoor
