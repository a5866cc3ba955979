/- All lines; the token that is blamed; spots. -/
import Derived.Test.YtbijgmaeechmoaaDoorRl
namespace Go.Proofs.YtbijgmaeechmoaaDoor
open Go.RowKit Lx Kx
set_option maxRecDepth 100000

/-- All lines are read, and the end is next. -/
def Read (w0 : World) (g : Nat) (A : Option Addr) (c : Nat) (ts : List Tok) (w' : World) : Prop :=
  ∃ k n hs l t, Rd w0 g A c ts k (n.value : Nat) n hs l w' ∧ ts[k]? = some t ∧ runB ts [] = .done n hs l t ∧ hs.length = l.length ∧ l.length ≤ k
def Lines (w0 : World) (g : Nat) (A : Option Addr) (c : Nat) (ts : List Tok) (e : Ending) (w' : World) : Prop :=
  Bad w0 g A c ts (runB ts []) e w' ∨ (e = .returned (.bool true) ∧ Read w0 g A c ts w')
def LineRel (w0 : World) (g : Nat) (A : Option Addr) (c : Nat) (ts : List Tok) (n : Tok) (W : World) : Prop :=
  ∃ k t hs l, Rd w0 g A c ts k (n.value : Nat) n hs l W ∧ ts[k]? = some t ∧ t.kind ≠ 3 ∧ runB ts [] = runT n (ts.drop k) [] hs l ∧ hs.length = l.length ∧ l.length ≤ k
theorem Rd.place {w0 w : World} {g : Nat} {A : Option Addr} {c : Nat} {ts : List Tok} {k : Nat} {B : Int} {b : Tok} {hs : List Tok} {l : List Tk} (h : Rd w0 g A c ts k B b hs l w) : placeR g w = k := by
  obtain ⟨T, F, hr, _⟩ := h
  exact hr.place

set_option maxRecDepth 100000 in
set_option maxHeartbeats 4000000 in
theorem lines {w0 w : World} {g : Nat} {A : Option Addr} {c : Nat} {ts : List Tok} {B : Int} {b : Tok} (h : Rd w0 g A c ts 0 B b [] [] w) :
    Calls Tryd.prog 27 #[.pointer (some ⟨g, 0, none⟩)] w (Lines w0 g A c ts) := by
  obtain ⟨T, F, hr, hrows⟩ := h
  have KS := Lib.hid (skipEmpty hr)
  have HRW := Lib.hid hrows
  clear hr hrows
  go_enter Tryd.func27, Tryd.ntmps27
  go_wp2_with (fail)
  with_reducible refine KS.out.mono ?_
  rintro e w1 ⟨rfl, k1, t1, hs1, hk1, h13, hr1, ht1⟩
  have HR1 := Lib.hid (show Rd w0 g A c ts k1 B b [] [] w1 from ⟨T, F, hr1, HRW.out.turns ht1⟩)
  have HQ1 := Lib.hid (show runB ts [] = runB (ts.drop k1) [] from hs1.2.2)
  have KB := Lib.hid (burstLine HR1.out hk1 h13)
  clear hs1 hk1 h13 hr1 ht1
  go_wp2_with (fail)
  with_reducible refine KB.out.mono ?_
  rintro e w2 (⟨rfl, x, k, t, h1, h2, h3⟩ | ⟨rfl, k2, n, h1, h2, h3⟩)
  · have H1 := Lib.hid h1
    have H2 := Lib.hid h2
    have H3 := Lib.hid h3
    clear h1 h2 h3
    go_wp2
    go_ret
    exact .inl ⟨rfl, x, k, t, H1.out, H2.out, HQ1.out.trans H3.out⟩
  · obtain ⟨T2, F2, hr2, hrows2⟩ := h1
    have HRW2 := Lib.hid hrows2
    have HQ2 := Lib.hid (HQ1.out.trans h3)
    have KS2 := Lib.hid (skipEmpty hr2)
    clear hr2 hrows2 h3 h2
    go_wp2_with (fail)
    with_reducible refine KS2.out.mono ?_
    rintro e w3 ⟨rfl, k3, t3, hs3, hk3, h33, hr3, ht3⟩
    have HL := Lib.hid (show LineRel w0 g A c ts n w3 from ⟨k3, t3, [], [], ⟨T2, F2, hr3, HRW2.out.turns ht3⟩, hk3, h33, HQ2.out.trans (hs3.2.1 n [] []), rfl, Nat.zero_le _⟩)
    clear hs3 hk3 h33 hr3 ht3
    go_wp2
    go_loopw [11] (fun _ W => LineRel w0 g A c ts n W) (fun _ W => ts.length - placeR g W)
    case atStart => exact HL.out
    case round =>
      obtain ⟨k, t, hs, l, hd, hk, h3, hq, hhl, hlk⟩ := hrel
      obtain ⟨T4, F4, hr4, hrows4⟩ := hd
      have hlt := hr4.lt
      have hsm := hr4.small
      have HK := Lib.hid hk
      have HQ := Lib.hid hq
      by_cases e4 : t.kind = 4
      · have KN := Lib.hid (nextIs 4 hr4 hk)
        rw [is_yes (z := 4) e4 rfl] at KN
        have HD := Lib.hid (show runB ts [] = .done n hs l t by rw [hq, drop_tok hk, runT_end e4])
        have H4 := Lib.hid hr4
        have HO4 := Lib.hid hrows4
        clear hr4 hrows4 hk hq e4 h3
        go_wp2_with (fail)
        with_reducible refine KN.out.mono ?_
        rintro e w5 ⟨rfl, hb⟩
        have HB := Lib.hid hb
        clear hb
        go_wp2
        go_ret
        exact .inr ⟨rfl, k, n, hs, l, t, ⟨T4, F4, H4.out.on HB.out, HO4.out.turns (Turns.of_below HB.out)⟩, HK.out, HD.out, hhl, hlk⟩
      · have KN := Lib.hid (nextIs 4 hr4 hk)
        rw [is_no (z := 4) e4 rfl] at KN
        have KT : Hid (∀ w', Below wr.heap.size wr w' → Calls Tryd.prog 43 #[.pointer (some ⟨g, 0, none⟩)] w' (TaskLine w0 g A c ts k (n.value : Nat) n hs l)) := fun w' hb =>
          taskLine ⟨T4, F4, hr4.on hb, hrows4.turns (Turns.of_below hb)⟩ hk h3 e4 (by omega) (by omega)
        have H4 := Lib.hid hr4
        clear hr4 hrows4 hk hq e4 h3
        go_wp2_with (fail)
        with_reducible refine KN.out.mono ?_
        rintro e w5 ⟨rfl, hb⟩
        have HB := Lib.hid hb
        clear hb
        go_wp2_with (fail)
        with_reducible refine (KT.out _ HB.out).mono ?_
        rintro e w6 (⟨rfl, x, k6, t6, h61, h62, h63⟩ | ⟨rfl, k6, t6, q6, h61, h62, h63⟩)
        · have H61 := Lib.hid h61
          have H62 := Lib.hid h62
          have H63 := Lib.hid h63
          clear h61 h62 h63
          go_wp2
          go_ret
          exact .inl ⟨rfl, x, k6, t6, H61.out, H62.out, HQ.out.trans H63.out⟩
        · obtain ⟨T6, F6, hr6, hrows6⟩ := h61
          have HRW6 := Lib.hid hrows6
          have HQ6 := Lib.hid (HQ.out.trans h63)
          have KS6 := Lib.hid (skipEmpty hr6)
          clear hr6 hrows6 h63
          go_wp2_with (fail)
          with_reducible refine KS6.out.mono ?_
          rintro e w7 ⟨rfl, k7, t7, hs7, hk7, h73, hr7, ht7⟩
          have HL7 := Lib.hid (show Rd w0 g A c ts k7 (n.value : Nat) n (hs ++ [t6]) (l ++ [q6]) w7 from ⟨T6, F6, hr7, HRW6.out.turns ht7⟩)
          have HQ7 := Lib.hid (HQ6.out.trans (hs7.2.1 n (hs ++ [t6]) (l ++ [q6])))
          have HK7 := Lib.hid hk7
          have H73 := Lib.hid h73
          have hkk := hs7.1
          clear hs7 hk7 h73 hr7 ht7
          go_wp2
          go_roundw
          case rel => exact ⟨k7, t7, hs ++ [t6], l ++ [q6], HL7.out, HK7.out, H73.out, HQ7.out, by simp [hhl], by simp; omega⟩
          case measure =>
            rw [HL7.out.place, H4.out.place]
            have := (List.getElem?_eq_some_iff.1 HK7.out).1
            omega
end Go.Proofs.YtbijgmaeechmoaaDoor
