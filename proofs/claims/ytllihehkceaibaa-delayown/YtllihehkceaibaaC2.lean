/- The walk of DelayOwn. -/
import Derived.Test.YtllihehkceaibaaTw
namespace Go.Proofs.Ytllihehkceaibaa.InOwn
open Go.RowKit

/-- So many asks were made; gate u is the same in both. -/
def OwnRel (w : World) (pa ga pb gb u N : Nat) (i : Value) (W : World) : Prop := ∃ (k : Nat) (X : World) (gs hs : List Gt) (x : Gt), k ≤ N ∧ i = .int .i64 (k : Int) ∧ X = W ∧ Two w pa ga k gs pb gb k hs X ∧ gs[u]? = some x ∧ hs[u]? = some x

set_option maxRecDepth 100000 in
set_option maxHeartbeats 4000000 in
theorem core (l : List Int) (a : Option Addr) (cap : Nat) (s : List Ask) (a2 : Option Addr) (cap2 t : Nat) (w : World) (hm : l.length ≤ maxLen) (ha : Ints w a cap l) (hm2 : s.length ≤ maxLen) (hs : Asks w a2 cap2 s) (ht : t < 256) :
    Calls Try.prog 6 #[.slice a l.length cap, .slice a2 s.length cap2, .int .u8 (t : Int)] w (Woke w) := by
  have HA := Lib.hid ha
  have HS := Lib.hid hs
  unfold maxLen at hm2
  clear ha hs
  go_enter Try.func6, Try.ntmps6
  go_wp2_with (fail)
  refine (awake _).mono ?_
  rintro e w1 ⟨rfl, hb1⟩
  have B1 := Lib.hid hb1
  clear hb1
  have KR := Lib.hid (rightAny (w := w1) hm (HA.out.below (Nat.le_refl _) B1.out))
  by_cases hno : rightB l = false ∨ 300 < s.length
  · by_cases hri : rightB l = false
    · rw [hri] at KR
      clear hno hri
      go_wp2_with (fail)
      with_reducible refine KR.out.mono ?_
      rintro e w2 ⟨rfl, rfl⟩
      go_wp2_with (fail)
      refine (awake _).mono ?_
      rintro e w2 ⟨rfl, hb2⟩
      go_wp2
      go_ret
      exact ⟨rfl, B1.out.trans (hb2.mono B1.out.size)⟩
    · have hri' : rightB l = true := by simpa using hri
      have t1 : decide ((300 : Int) < (s.length : Int)) = true := decide_eq_true (by rcases hno with h | h <;> first | exact absurd h hri | omega)
      rw [hri'] at KR
      clear hno hri hri'
      go_wp2_with (fail)
      with_reducible refine KR.out.mono ?_
      rintro e w2 ⟨rfl, rfl⟩
      go_wp2_with (fail)
      refine (awake _).mono ?_
      rintro e w2 ⟨rfl, hb2⟩
      go_wp2
      go_ret
      exact ⟨rfl, B1.out.trans (hb2.mono B1.out.size)⟩
  · have hri : rightB l = true := by
      by_cases h : rightB l = false
      · exact absurd (.inl h) hno
      · simpa using h
    have t1 : decide ((300 : Int) < (s.length : Int)) = false := decide_eq_false (by omega)
    have hs2 : s.length ≤ 300 := by omega
    obtain ⟨hd, l1, l2⟩ := rightB_yes.1 hri
    have HD := Lib.hid hd
    rw [hri] at KR
    have KN := Lib.hid (fun W (hb : Below w.heap.size w W) => has_new (w0 := w) (HA.out.below (Nat.le_refl _) hb) hb HD.out l1 l2)
    clear hno hri hd
    go_wp2_with (fail)
    with_reducible refine KR.out.mono ?_
    rintro e w2 ⟨rfl, rfl⟩
    clear KR
    obtain ⟨u, hu⟩ : ∃ u, u = t % l.length := ⟨_, rfl⟩
    have hul : u < l.length := by rw [hu]; exact Nat.mod_lt _ (by omega)
    have HQ := Lib.hid (show (t : Int) % (l.length : Int) = (u : Int) by rw [hu, Int.natCast_emod])
    clear hu
    have h0' : ¬ ((l.length : Int) = 0) := by omega
    go_wp2_with (fail)
    rw [HQ.out]
    refine (KN.out _ B1.out).mono ?_
    rintro e w3 ⟨pa, ga, rfl, h3, -, -, -⟩
    have H3 := Lib.hid h3
    clear h3
    go_wp2_with (fail)
    refine (KN.out _ H3.out.below).mono ?_
    rintro e w4 ⟨pb, gb, rfl, h4, hp4, hg4, hb4⟩
    have HT := Lib.hid (Two.made H3.out h4 hp4 hg4 hb4)
    clear h4 hp4 hg4 hb4 KN H3
    go_wp2
    obtain ⟨x0, hx0⟩ : ∃ x, (l.map freshG)[u]? = some x := ⟨(l.map freshG)[u]'(by rw [List.length_map]; omega), List.getElem?_eq_getElem _⟩
    have HX0 := Lib.hid hx0
    clear hx0
    go_loopw [12] (fun i W => OwnRel w pa ga pb gb u s.length i W) (fun i _ => s.length - (intOf i).toNat)
    case atStart => exact ⟨0, _, _, _, x0, by omega, rfl, rfl, HT.out, HX0.out, HX0.out⟩
    case round =>
      obtain ⟨k, X, gs, hs, x, hk, rfl, rfl, hh, hg1, hg2⟩ := hrel
      have H4 := Lib.hid hh
      have G1 := Lib.hid hg1
      have G2 := Lib.hid hg2
      clear hh hg1 hg2 HT HX0
      by_cases hlt : k < s.length
      · have t4 : decide ((k : Int) < (s.length : Int)) = true := by simp; omega
        have hx : s[k]? = some s[k] := List.getElem?_eq_getElem hlt
        obtain ⟨b, off, rfl, hbl, hc⟩ := HS.out.at_ hx
        have HC := Lib.hid hc
        obtain ⟨c0, c1⟩ := hc _ H4.out.a.below
        clear hx hc
        generalize s[k] = y at c0 c1 HC
        obtain ⟨y0, y1⟩ := y
        simp only at c0 c1 HC
        have i1 : (0 : Int) ≤ (k : Int) := by omega
        have i2 : (k : Int) < (s.length : Int) := by omega
        by_cases hyu : y0 = (u : Int)
        · subst hyu
          have KA := Lib.hid (has_go (u : Int) y1 (H4.out.drewN 1).a (by omega))
          obtain ⟨e1, e2⟩ := go_alike G1.out G2.out y1
          have KB : Hid (∀ W, Has w pb gb k hs W → Calls Try.prog 11 #[.pointer (some ⟨pb, 0, none⟩), .int .i64 (u : Int), .int .i64 y1] W (Then (.int .i64 (goV gs (u : Int) y1)) w pb gb (k + 1) (goS hs (u : Int) y1) W)) := Lib.hid (fun W h => by
            have := has_go (u : Int) y1 h (by omega)
            rw [e1] at this
            exact this)
          obtain ⟨z, hz⟩ : ∃ z, (goS gs (u : Int) y1)[u]? = some z := ⟨(goS gs (u : Int) y1)[u]'(by rw [length_go]; exact (List.getElem?_eq_some_iff.1 G1.out).1), List.getElem?_eq_getElem _⟩
          have Z1 := Lib.hid hz
          have Z2 := Lib.hid (e2.trans hz)
          clear e1 e2 hz
          generalize goS gs (u : Int) y1 = gs2 at KA Z1
          generalize goS hs (u : Int) y1 = hs2 at KB Z2
          generalize goV gs (u : Int) y1 = v at KA KB
          go_wp2_with (fail)
          go_region_held3 (fun W => W.cell? ⟨b, off + k * 2, none⟩ = some (.int .i64 (u : Int)) ∧ W.cell? ⟨b, off + k * 2 + 1, none⟩ = some (.int .i64 y1)) (first | go_keep | exact HC.out _ H5.out.a.below)
            (first | (go_at_call 11; refine (KA.out).mono ?_; rintro e w4 ⟨rfl, h4, ht4⟩; have H5 := Lib.hid ((H4.out.drewN 1).next h4 ht4); clear h4 ht4))
          obtain ⟨c2, c3⟩ := HC.out _ H5.out.a.below
          go_wp2_with (fail)
          with_reducible refine (KB.out _ H5.out.b).mono ?_
          rintro e w5 ⟨rfl, h5, ht5⟩
          have H6 := Lib.hid (H5.out.flip.next h5 ht5).flip
          clear h5 ht5
          go_wp2
          go_roundw
          case rel => exact ⟨k + 1, _, gs2, hs2, z, by omega, by go_num, rfl, H6.out, Z1.out, Z2.out⟩
          case measure => simp [intOf]; omega
        · have KA := Lib.hid (has_go y0 y1 (H4.out.drewN 1).a (by omega))
          have Z1 := Lib.hid ((go_other (gs := gs) hyu y1).trans G1.out)
          have t5 : (y0 == (u : Int)) = false := by rw [beq_eq_false_iff_ne]; exact hyu
          clear hyu
          generalize goS gs y0 y1 = gs2 at KA Z1
          generalize goV gs y0 y1 = v at KA
          go_wp2_with (fail)
          go_region_held3 (fun W => W.cell? ⟨b, off + k * 2, none⟩ = some (.int .i64 y0) ∧ W.cell? ⟨b, off + k * 2 + 1, none⟩ = some (.int .i64 y1)) (first | go_keep | exact HC.out _ H5.out.a.below)
            (first | (go_at_call 11; refine (KA.out).mono ?_; rintro e w4 ⟨rfl, h4, ht4⟩; have H5 := Lib.hid ((H4.out.drewN 1).next h4 ht4); clear h4 ht4))
          obtain ⟨c2, c3⟩ := HC.out _ H5.out.a.below
          have H6 : Hid (Two w pa ga (k + 1) gs2 pb gb (k + 1) hs w4) := Lib.hid ⟨H5.out.a, H5.out.b.more (by omega), H5.out.f1, H5.out.f2, H5.out.f3⟩
          clear H5
          go_wp2
          go_roundw
          case rel => exact ⟨k + 1, _, gs2, hs, x, by omega, by go_num, rfl, H6.out, Z1.out, G2.out⟩
          case measure => simp [intOf]; omega
      · have t4 : decide ((k : Int) < (s.length : Int)) = false := by simp; omega
        have t4' : decide (k < s.length) = false := by simp; omega
        have KO : Hid (∀ W, Has w pa ga k gs W → Calls Try.prog 12 #[.pointer (some ⟨pa, 0, none⟩), .int .i64 (u : Int)] W (Tells (.tuple #[.int .i64 (openG x), .bool true]) W)) := Lib.hid (fun W h => by
          have e := openOf (u : Int) h.grd
          rw [(open_at G1.out).1, (open_at G1.out).2.1] at e
          exact e)
        have KP : Hid (∀ W, Has w pb gb k hs W → Calls Try.prog 12 #[.pointer (some ⟨pb, 0, none⟩), .int .i64 (u : Int)] W (Tells (.tuple #[.int .i64 (openG x), .bool true]) W)) := Lib.hid (fun W h => by
          have e := openOf (u : Int) h.grd
          rw [(open_at G2.out).1, (open_at G2.out).2.1] at e
          exact e)
        have KC : Hid (∀ W, Has w pa ga k gs W → Calls Try.prog 13 #[.pointer (some ⟨pa, 0, none⟩), .int .i64 (u : Int)] W (Says (.int .i64 x.2.2) W)) := Lib.hid (fun W h => by
          have e := countOf (u : Int) h.grd
          rw [(open_at G1.out).2.2] at e
          exact e)
        have KD : Hid (∀ W, Has w pb gb k hs W → Calls Try.prog 13 #[.pointer (some ⟨pb, 0, none⟩), .int .i64 (u : Int)] W (Says (.int .i64 x.2.2) W)) := Lib.hid (fun W h => by
          have e := countOf (u : Int) h.grd
          rw [(open_at G2.out).2.2] at e
          exact e)
        clear G1 G2
        generalize openG x = o at KO KP
        generalize x.2.2 = c at KC KD
        go_wp2_with (fail)
        with_reducible refine (KO.out _ H4.out.a).mono ?_
        rintro e w5 ⟨rfl, hb⟩
        have H5 := Lib.hid (H4.out.tells hb)
        clear hb H4
        go_wp2_with (fail)
        with_reducible refine (KP.out _ H5.out.b).mono ?_
        rintro e w6 ⟨rfl, hb⟩
        have H6 := Lib.hid (H5.out.tells hb)
        clear hb H5
        go_wp2_with (fail)
        with_reducible refine (KC.out _ H6.out.a).mono ?_
        rintro e w7 ⟨rfl, rfl⟩
        go_wp2_with (fail)
        with_reducible refine (KD.out _ H6.out.b).mono ?_
        rintro e w7 ⟨rfl, rfl⟩
        go_wp2
        go_ret
        exact ⟨rfl, H6.out.a.below⟩
end Go.Proofs.Ytllihehkceaibaa.InOwn
