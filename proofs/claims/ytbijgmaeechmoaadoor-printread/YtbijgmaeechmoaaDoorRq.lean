/- The reader's small steps: a word, a line's end, empty lines, a mode. -/
import Derived.Test.YtbijgmaeechmoaaDoorRp
namespace Go.Proofs.YtbijgmaeechmoaaDoor
open Go.RowKit Lx Kx

/-- It answers yes or no, the reader stands at k; of what was there only the reader has turned. -/
def Stands (b : Bool) (w0 : World) (g : Nat) (A : Option Addr) (c : Nat) (ts : List Tok) (x : Rest) (k : Nat) (w : World) (e : Ending) (w' : World) : Prop :=
  e = .returned (.bool b) ∧ Rs w0 g A c ts x k w' ∧ Turns (fun i => i = g) w w'
theorem turns_go {S : Nat → Prop} {w w1 : World} {g j : Nat} {u : Value} (h : Below w.heap.size w w1) (hS : S g) : Turns S w (w1.setCell ⟨g, j, none⟩ u) :=
  (Turns.of_below h).setCell (a := ⟨g, j, none⟩) (.inr hS) u

set_option maxHeartbeats 1000000 in
theorem mode (s : List UInt8) (w : World) : Calls Tryd.prog 68 #[.string ⟨s.toArray⟩] w (Says (.int .i64 (modeF s : Nat)) w) := by
  by_cases h1 : s = [114, 101, 116, 114, 121]
  · subst h1
    go_enter Tryd.func68, Tryd.ntmps68
    go_wp2
    go_ret
    exact ⟨rfl, rfl⟩
  · by_cases h2 : s = [98, 108, 111, 99, 107]
    · subst h2
      go_enter Tryd.func68, Tryd.ntmps68
      go_wp2
      go_ret
      exact ⟨rfl, rfl⟩
    · by_cases h3 : s = [98, 97, 99, 107, 117, 112]
      · subst h3
        go_enter Tryd.func68, Tryd.ntmps68
        go_wp2
        go_ret
        exact ⟨rfl, rfl⟩
      · have HM := Lib.hid (show modeF s = 0 by simp [modeF, h1, h2, h3])
        have d1 : (s == [114, 101, 116, 114, 121]) = false := by simp [h1]
        have d2 : (s == [98, 108, 111, 99, 107]) = false := by simp [h2]
        have d3 : (s == [98, 97, 99, 107, 117, 112]) = false := by simp [h3]
        clear h1 h2 h3
        go_enter Tryd.func68, Tryd.ntmps68
        go_wp2
        go_ret
        exact ⟨by rw [HM.out]; rfl, rfl⟩
section
variable {w0 w : World} {g : Nat} {A : Option Addr} {c : Nat} {ts : List Tok} {x : Rest} {k : Nat} {t : Tok}
set_option maxHeartbeats 1000000 in
theorem word_yes (s : List UInt8) (h : Rs w0 g A c ts x k w) (hk : ts[k]? = some t) (he : t.text = s) (ht : t.kind ≠ 4) :
    Calls Tryd.prog 56 #[.pointer (some ⟨g, 0, none⟩), .string ⟨s.toArray⟩] w (Stands true w0 g A c ts x (k + 1) w) := by
  have KN := Lib.hid (next h hk)
  have HH := Lib.hid h
  have HK := Lib.hid hk
  have hsm := h.small
  have hlt := h.lt
  have q : (t.text == s) = true := by simp [he]
  have F1 := field1 (.int .i64 (t.kind : Nat)) (.string ⟨t.text.toArray⟩) (.int .i64 (t.value : Nat)) (.int .i64 (t.line : Nat)) (.int .i64 (t.col : Nat))
  clear h hk he
  go_enter Tryd.func56, Tryd.ntmps56
  go_wp2_with (fail)
  with_reducible refine KN.out.mono ?_
  rintro e w1 ⟨rfl, hb⟩
  have HB := Lib.hid hb
  have H1 := Lib.hid (HH.out.on hb)
  have c1 := H1.out.c1
  have f1 := H1.out.lies.thawed 1
  clear hb
  unfold cellsT
  go_wp2
  go_ret
  exact ⟨rfl, H1.out.go HK.out ht, turns_go HB.out rfl⟩
set_option maxHeartbeats 1000000 in
theorem word_no (s : List UInt8) (h : Rs w0 g A c ts x k w) (hk : ts[k]? = some t) (he : t.text ≠ s) :
    Calls Tryd.prog 56 #[.pointer (some ⟨g, 0, none⟩), .string ⟨s.toArray⟩] w (Stands false w0 g A c ts x k w) := by
  have KN := Lib.hid (next h hk)
  have HH := Lib.hid h
  have q : (t.text == s) = false := by simp [he]
  have F1 := field1 (.int .i64 (t.kind : Nat)) (.string ⟨t.text.toArray⟩) (.int .i64 (t.value : Nat)) (.int .i64 (t.line : Nat)) (.int .i64 (t.col : Nat))
  clear h hk he
  go_enter Tryd.func56, Tryd.ntmps56
  go_wp2_with (fail)
  with_reducible refine KN.out.mono ?_
  rintro e w1 ⟨rfl, hb⟩
  have HB := Lib.hid hb
  have H1 := Lib.hid (HH.out.on hb)
  clear hb
  unfold cellsT
  go_wp2
  go_ret
  exact ⟨rfl, H1.out, Turns.of_below HB.out⟩

theorem is_yes {n : Nat} {z : Int} (h : t.kind = n) (hz : z = (n : Int)) : ((t.kind : Int) == z) = true := by rw [h, hz]; exact beq_self_eq_true _
theorem is_no {n : Nat} {z : Int} (h : t.kind ≠ n) (hz : z = (n : Int)) : ((t.kind : Int) == z) = false := by
  rw [hz]; exact beq_eq_false_iff_ne.2 (by omega)

set_option maxHeartbeats 1000000 in
theorem line_yes (h : Rs w0 g A c ts x k w) (hk : ts[k]? = some t) (ht : t.kind = 3) :
    Calls Tryd.prog 58 #[.pointer (some ⟨g, 0, none⟩)] w (Stands true w0 g A c ts x (k + 1) w) := by
  have KN := Lib.hid (nextIs 3 h hk)
  rw [is_yes (z := 3) ht rfl] at KN
  have HH := Lib.hid h
  have HK := Lib.hid hk
  have hsm := h.small
  have hlt := h.lt
  clear h hk
  go_enter Tryd.func58, Tryd.ntmps58
  go_wp2_with (fail)
  with_reducible refine KN.out.mono ?_
  rintro e w1 ⟨rfl, hb⟩
  have HB := Lib.hid hb
  have H1 := Lib.hid (HH.out.on hb)
  have c1 := H1.out.c1
  have f1 := H1.out.lies.thawed 1
  clear hb
  go_wp2
  go_ret
  exact ⟨rfl, H1.out.go HK.out (by omega), turns_go HB.out rfl⟩
set_option maxHeartbeats 1000000 in
theorem line_last (h : Rs w0 g A c ts x k w) (hk : ts[k]? = some t) (ht : t.kind ≠ 3) :
    Calls Tryd.prog 58 #[.pointer (some ⟨g, 0, none⟩)] w (Stands (decide (t.kind = 4)) w0 g A c ts x k w) := by
  have KN := Lib.hid (nextIs 3 h hk)
  rw [is_no (z := 3) ht rfl] at KN
  have KE : Hid (∀ w', Below w.heap.size w w' → Calls Tryd.prog 42 #[.pointer (some ⟨g, 0, none⟩), .int .i64 4] w' (Tells (decide (t.kind = 4)) w')) := fun w' hb => by
    have := nextIs 4 (h.on hb) hk
    by_cases e : t.kind = 4
    · rw [is_yes (z := 4) e rfl] at this; simpa [e] using this
    · rw [is_no (z := 4) e rfl] at this; simpa [e] using this
  have HH := Lib.hid h
  clear h hk
  go_enter Tryd.func58, Tryd.ntmps58
  go_wp2_with (fail)
  with_reducible refine KN.out.mono ?_
  rintro e w1 ⟨rfl, hb⟩
  have HB := Lib.hid hb
  clear hb
  go_wp2_with (fail)
  with_reducible refine (KE.out _ HB.out).mono ?_
  rintro e w2 ⟨rfl, hb⟩
  have HB2 := Lib.hid (HB.out.trans (hb.mono HB.out.size))
  clear hb
  go_wp2
  go_ret
  exact ⟨rfl, HH.out.on HB2.out, Turns.of_below HB2.out⟩
end

def placeR (g : Nat) (W : World) : Nat := match W.cell? ⟨g, 1, none⟩ with | some (.int _ k) => k.toNat | _ => 0
theorem Rs.place {w0 w : World} {g : Nat} {A : Option Addr} {c : Nat} {ts : List Tok} {x : Rest} {k : Nat} (h : Rs w0 g A c ts x k w) : placeR g w = k := by
  unfold placeR; rw [h.c1]; simp
/-- Behind empty lines. -/
def Skips (ts : List Tok) (k k' : Nat) : Prop := k ≤ k' ∧ (∀ n hs l, runT n (ts.drop k) [] hs l = runT n (ts.drop k') [] hs l) ∧ runB (ts.drop k) [] = runB (ts.drop k') []
theorem Skips.refl (ts : List Tok) (k : Nat) : Skips ts k k := ⟨Nat.le_refl _, fun _ _ _ => rfl, rfl⟩
theorem Skips.next {ts : List Tok} {k k' : Nat} {t : Tok} (h : Skips ts k k') (hk : ts[k']? = some t) (ht : t.kind = 3) : Skips ts k (k' + 1) :=
  ⟨Nat.le_succ_of_le h.1, fun n hs l => by rw [h.2.1, drop_tok hk, runT_skip ht], by rw [h.2.2, drop_tok hk, runB_skip ht]⟩
def Skipped (w0 : World) (g : Nat) (A : Option Addr) (c : Nat) (ts : List Tok) (x : Rest) (k : Nat) (w : World) (e : Ending) (w' : World) : Prop :=
  e = .returned (.tuple #[]) ∧ ∃ k' t, Skips ts k k' ∧ ts[k']? = some t ∧ t.kind ≠ 3 ∧ Rs w0 g A c ts x k' w' ∧ Turns (fun i => i = g) w w'
def SkipRel (w0 : World) (g : Nat) (A : Option Addr) (c : Nat) (ts : List Tok) (x : Rest) (k : Nat) (w : World) (W : World) : Prop :=
  ∃ k', Skips ts k k' ∧ Rs w0 g A c ts x k' W ∧ Turns (fun i => i = g) w W

set_option maxHeartbeats 2000000 in
theorem skipEmpty {w0 w : World} {g : Nat} {A : Option Addr} {c : Nat} {ts : List Tok} {x : Rest} {k : Nat} (h : Rs w0 g A c ts x k w) :
    Calls Tryd.prog 40 #[.pointer (some ⟨g, 0, none⟩)] w (Skipped w0 g A c ts x k w) := by
  have HH := Lib.hid h
  clear h
  go_enter Tryd.func40, Tryd.ntmps40
  go_wp2
  go_loopw [3] (fun _ W => SkipRel w0 g A c ts x k w W) (fun _ W => ts.length - placeR g W)
  case atStart => exact ⟨k, Skips.refl _ _, HH.out, Turns.refl _ _⟩
  case round =>
    obtain ⟨k', hs, hr, ht⟩ := hrel
    have hlt := hr.lt
    have hsm := hr.small
    obtain ⟨t, hk, _⟩ := hr.tok
    have HS := Lib.hid hs
    have HR := Lib.hid hr
    have HT := Lib.hid ht
    have HK := Lib.hid hk
    by_cases e3 : t.kind = 3
    · have KN := Lib.hid (nextIs 3 hr hk)
      rw [is_yes (z := 3) e3 rfl] at KN
      clear hs hr ht hk
      go_wp2_with (fail)
      with_reducible refine KN.out.mono ?_
      rintro e w1 ⟨rfl, hb⟩
      have HB := Lib.hid hb
      have H1 := Lib.hid (HR.out.on hb)
      have c1 := H1.out.c1
      have f1 := H1.out.lies.thawed 1
      clear hb
      go_wp2
      go_roundw
      case rel => exact ⟨k' + 1, HS.out.next HK.out e3, H1.out.go HK.out (by omega), HT.out.trans (turns_go (S := fun i => i = g) HB.out rfl) (fun _ _ h => h)⟩
      case measure =>
        rw [(H1.out.go HK.out (by omega)).place, HR.out.place]
        omega
    · have KN := Lib.hid (nextIs 3 hr hk)
      rw [is_no (z := 3) e3 rfl] at KN
      clear hs hr ht hk
      go_wp2_with (fail)
      with_reducible refine KN.out.mono ?_
      rintro e w1 ⟨rfl, hb⟩
      have HB := Lib.hid hb
      have H1 := Lib.hid (HR.out.on hb)
      clear hb
      go_wp2
      go_end0
      exact ⟨rfl, k', t, HS.out, HK.out, e3, H1.out, HT.out.trans (Turns.of_below (S := fun i => i = g) HB.out) (fun _ _ h => h)⟩
end Go.Proofs.YtbijgmaeechmoaaDoor
