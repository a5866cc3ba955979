/- The walk of DelayResets. -/
import Derived.Test.YtllihehkceaibaaRo
namespace Go.Proofs.Ytllihehkceaibaa.InResets
open Go.RowKit

/-- The first k of the own row are written over. -/
def OverRel (w : World) (pa ga pb gb o : Nat) (l : List Int) (i : Value) (W : World) : Prop := ∃ (k : Nat) (X : World), k ≤ l.length ∧ i = .int .i64 (k : Int) ∧ X = W ∧ Two w pa ga 0 (l.map freshG) pb gb 0 (l.map freshG) X ∧ Rest X o k l
/-- So many asks were made of the first one. -/
def AskRel (w : World) (pa ga pb gb : Nat) (l : List Int) (N : Nat) (i : Value) (W : World) : Prop := ∃ (k : Nat) (X : World) (gs : List Gt), k ≤ N ∧ i = .int .i64 (k : Int) ∧ X = W ∧ gs.map distG = l ∧ Two w pa ga k gs pb gb 0 (l.map freshG) X
/-- So many asks were made of both. -/
def BothRel (w : World) (pa ga pb gb N : Nat) (i : Value) (W : World) : Prop := ∃ (k : Nat) (X : World) (gs : List Gt), k ≤ N ∧ i = .int .i64 (k : Int) ∧ X = W ∧ Two w pa ga (N + k) gs pb gb k gs X

set_option maxRecDepth 100000 in
set_option maxHeartbeats 4000000 in
theorem core (l : List Int) (a : Option Addr) (cap : Nat) (s : List Ask) (a2 : Option Addr) (cap2 : Nat) (w : World) (hm : l.length ≤ maxLen) (ha : Ints w a cap l) (hm2 : s.length ≤ maxLen) (hs : Asks w a2 cap2 s) :
    Calls Try.prog 5 #[.slice a l.length cap, .slice a2 s.length cap2] w (Woke w) := by
  have HA := Lib.hid ha
  have HS := Lib.hid hs
  unfold maxLen at hm2
  clear ha hs
  go_enter Try.func5, Try.ntmps5
  go_wp2_with (fail)
  refine (awake _).mono ?_
  rintro e w1 ⟨rfl, hb1⟩
  have B1 := Lib.hid hb1
  clear hb1
  have KR := Lib.hid (rightAny (w := w1) hm (HA.out.below (Nat.le_refl _) B1.out))
  by_cases hno : rightB l = false ∨ 300 < s.length
  · by_cases hri : rightB l = false
    · rw [hri] at KR
      clear hno hri
      go_wp2_with (fail)
      with_reducible refine KR.out.mono ?_
      rintro e w2 ⟨rfl, rfl⟩
      go_wp2_with (fail)
      refine (awake _).mono ?_
      rintro e w2 ⟨rfl, hb2⟩
      go_wp2
      go_ret
      exact ⟨rfl, B1.out.trans (hb2.mono B1.out.size)⟩
    · have hri' : rightB l = true := by simpa using hri
      have t1 : decide ((300 : Int) < (s.length : Int)) = true := decide_eq_true (by rcases hno with h | h <;> first | exact absurd h hri | omega)
      rw [hri'] at KR
      clear hno hri hri'
      go_wp2_with (fail)
      with_reducible refine KR.out.mono ?_
      rintro e w2 ⟨rfl, rfl⟩
      go_wp2_with (fail)
      refine (awake _).mono ?_
      rintro e w2 ⟨rfl, hb2⟩
      go_wp2
      go_ret
      exact ⟨rfl, B1.out.trans (hb2.mono B1.out.size)⟩
  · have hri : rightB l = true := by
      by_cases h : rightB l = false
      · exact absurd (.inl h) hno
      · simpa using h
    have t1 : decide ((300 : Int) < (s.length : Int)) = false := decide_eq_false (by omega)
    have hs2 : s.length ≤ 300 := by omega
    obtain ⟨hd, l1, l2⟩ := rightB_yes.1 hri
    have HD := Lib.hid hd
    rw [hri] at KR
    have KN := Lib.hid (fun W (hb : Below w.heap.size w W) => has_new (w0 := w) (HA.out.below (Nat.le_refl _) hb) hb HD.out l1 l2)
    clear hno hri hd
    go_wp2_with (fail)
    with_reducible refine KR.out.mono ?_
    rintro e w2 ⟨rfl, rfl⟩
    clear KR
    have HI1 := Lib.hid (HA.out.below (Nat.le_refl _) B1.out)
    go_wp2_with (
      at_builtin
      refine wpList_append_ints rfl (.tmp 26) (.tmp 27) rfl l a cap w1.heap.size rfl rfl HI1.out l1 (by omega) rfl ?_
      intro o co w3 hco hro hb3 ho3
      have HR3 := Lib.hid hro
      have HCO := Lib.hid hco
      have HO3 := Lib.hid ho3
      have HB3 := Lib.hid (B1.out.trans (hb3.mono B1.out.size))
      clear hro hb3 hco ho3)
    have KN2 := Lib.hid (has_new (w0 := w) (HR3.out.ints HCO.out) HB3.out HD.out l1 l2)
    with_reducible refine KN2.out.mono ?_
    rintro e w4 ⟨pa, ga, rfl, h4, hp4, hg4, hb4⟩
    have HR4 := Lib.hid (HR3.out.tells hb4)
    have H4 := Lib.hid h4
    have HF1 : Hid (o ≠ pa ∧ o ≠ ga ∧ w.heap.size ≤ o) := Lib.hid (by
      have q1 := HR3.out.lt
      have q2 := HO3.out
      have q3 := B1.out.size
      omega)
    clear h4 hp4 hg4 hb4 KN2
    go_wp2_with (fail)
    refine (KN.out _ H4.out.below).mono ?_
    rintro e w5 ⟨pb, gb, rfl, h5, hp5, hg5, hb5⟩
    have HT := Lib.hid (Two.made H4.out h5 hp5 hg5 hb5)
    have HR5 := Lib.hid (HR4.out.tells hb5)
    have HF2 : Hid (o ≠ pb ∧ o ≠ gb) := Lib.hid (by
      have q1 := HR4.out.lt
      omega)
    clear h5 hp5 hg5 hb5 KN H4 HR3 HR4 HB3 HI1 HO3
    go_wp2
    go_loopw [10] (fun i W => OverRel w pa ga pb gb o l i W) (fun i _ => l.length - (intOf i).toNat)
    case atStart => exact ⟨0, _, by omega, rfl, rfl, HT.out, HR5.out⟩
    case round =>
      obtain ⟨k, X, hk, rfl, rfl, hh, hr⟩ := hrel
      have H6 := Lib.hid hh
      have HR6 := Lib.hid hr
      clear hh hr HT HR5
      by_cases hlt : k < l.length
      · have t4 : decide ((k : Int) < (l.length : Int)) = true := by simp; omega
        have hx : l[k]? = some l[k] := List.getElem?_eq_getElem hlt
        obtain ⟨b, off, rfl, hbl, hc⟩ := HA.out.at_ hx
        have c0 := hc _ H6.out.a.below
        have c1 := HR6.out.cell (Nat.le_refl _) hx
        have cf := HR6.out.thawed
        have co := HR6.out.lt
        clear hx hc
        generalize l[k] = x at c0 c1
        have i1 : (0 : Int) ≤ (k : Int) := by omega
        have i2 : (k : Int) < (l.length : Int) := by omega
        have HW : Hid (∀ m, Rest (((X.drewN m)).setCell ⟨o, k, none⟩ (.int .i64 1)) o (k + 1) l) := Lib.hid (fun m => (HR6.out.drewN m).set _)
        have HWT : Hid (∀ m, Two w pa ga 0 (l.map freshG) pb gb 0 (l.map freshG) ((X.drewN m).setCell ⟨o, k, none⟩ (.int .i64 1))) := Lib.hid (fun m => by
          obtain ⟨q1, q2, q3⟩ := HF1.out
          obtain ⟨q4, q5⟩ := HF2.out
          exact (H6.out.drewN m).turns (S := fun k => k = o) ((Turns.refl (fun k => k = o) _).setCell (a := ⟨o, k, none⟩) (.inr rfl) _) (fun k hk => by omega) (fun h => q1 h.symm) (fun h => q2 h.symm) (fun h => q4 h.symm) (fun h => q5 h.symm))
        go_wp2
        go_quiet (fail)
        go_wp2
        go_roundw
        case rel => exact ⟨k + 1, _, by omega, by go_num, rfl, HWT.out _, HW.out _⟩
        case measure => simp [intOf]; omega
      · have t4 : decide ((k : Int) < (l.length : Int)) = false := by simp; omega
        have t4' : decide (k < l.length) = false := by simp; omega
        clear HR6
        go_wp2
        go_loopw [11] (fun i W => AskRel w pa ga pb gb l s.length i W) (fun i _ => s.length - (intOf i).toNat)
        case atStart => exact ⟨0, _, _, by omega, rfl, rfl, dist_fresh l, H6.out⟩
        case round =>
          obtain ⟨j, Y, gs, hj, rfl, rfl, hdist, hh⟩ := hrel
          have H7 := Lib.hid hh
          have HDI := Lib.hid hdist
          clear hh hdist H6
          by_cases hjs : j < s.length
          · have t5 : decide ((j : Int) < (s.length : Int)) = true := by simp; omega
            have hx : s[j]? = some s[j] := List.getElem?_eq_getElem hjs
            obtain ⟨b, off, rfl, hbl, hc⟩ := HS.out.at_ hx
            have HC := Lib.hid hc
            obtain ⟨c0, c1⟩ := hc _ H7.out.a.below
            have KG := Lib.hid (has_go s[j].1 s[j].2 (H7.out.drewN 1).a (by omega))
            have HDG := Lib.hid ((dist_go gs s[j].1 s[j].2).trans HDI.out)
            clear hx hc
            generalize s[j] = y at c0 c1 HC KG HDG
            obtain ⟨y0, y1⟩ := y
            simp only at c0 c1 HC KG HDG
            generalize goS gs y0 y1 = gs2 at KG HDG
            generalize goV gs y0 y1 = v at KG
            have i1 : (0 : Int) ≤ (j : Int) := by omega
            have i2 : (j : Int) < (s.length : Int) := by omega
            go_wp2_with (fail)
            go_region_held3 (fun W => W.cell? ⟨b, off + j * 2, none⟩ = some (.int .i64 y0) ∧ W.cell? ⟨b, off + j * 2 + 1, none⟩ = some (.int .i64 y1)) (first | go_keep | exact HC.out _ H8.out.a.below)
              (first | (go_at_call 11; refine (KG.out).mono ?_; rintro e w7 ⟨rfl, h7, ht7⟩; have H8 := Lib.hid ((H7.out.drewN 1).next h7 ht7); clear h7 ht7))
            go_wp2
            go_roundw
            case rel => exact ⟨j + 1, _, gs2, by omega, by go_num, rfl, HDG.out, H8.out⟩
            case measure => simp [intOf]; omega
          · have t5 : decide ((j : Int) < (s.length : Int)) = false := by simp; omega
            have t5' : decide (j < s.length) = false := by simp; omega
            obtain rfl : j = s.length := by omega
            have KZ := has_reset H7.out.a
            rw [zero_fresh, HDI.out] at KZ
            have HKZ := Lib.hid KZ
            clear KZ
            go_wp2_with (fail)
            with_reducible refine HKZ.out.mono ?_
            rintro e w7 ⟨rfl, h7, ht7⟩
            have H8 := Lib.hid (H7.out.next h7 ht7)
            clear h7 ht7 H7 HKZ HDI
            go_wp2
            go_loopw [12] (fun i W => BothRel w pa ga pb gb s.length i W) (fun i _ => s.length - (intOf i).toNat)
            case atStart => exact ⟨0, _, _, by omega, rfl, rfl, H8.out⟩
            case round =>
              obtain ⟨m, Z, hs, hmm, rfl, rfl, hh⟩ := hrel
              have H9 := Lib.hid hh
              clear hh H8
              by_cases hms : m < s.length
              · have t6 : decide ((m : Int) < (s.length : Int)) = true := by simp; omega
                have hx : s[m]? = some s[m] := List.getElem?_eq_getElem hms
                obtain ⟨b, off, rfl, hbl, hc⟩ := HS.out.at_ hx
                have HC := Lib.hid hc
                obtain ⟨c0, c1⟩ := hc _ H9.out.a.below
                have KA := Lib.hid (has_go s[m].1 s[m].2 (H9.out.drewN 1).a (by omega))
                have KB : Hid (∀ W, Has w pb gb m hs W → Calls Try.prog 11 #[.pointer (some ⟨pb, 0, none⟩), .int .i64 s[m].1, .int .i64 s[m].2] W (Then (.int .i64 (goV hs s[m].1 s[m].2)) w pb gb (m + 1) (goS hs s[m].1 s[m].2) W)) := Lib.hid (fun W h => has_go s[m].1 s[m].2 h (by omega))
                clear hx hc
                generalize s[m] = y at c0 c1 HC KA KB
                obtain ⟨y0, y1⟩ := y
                simp only at c0 c1 HC KA KB
                generalize goS hs y0 y1 = gs2 at KA KB
                generalize goV hs y0 y1 = v at KA KB
                have i1 : (0 : Int) ≤ (m : Int) := by omega
                have i2 : (m : Int) < (s.length : Int) := by omega
                go_wp2_with (fail)
                go_region_held3 (fun W => W.cell? ⟨b, off + m * 2, none⟩ = some (.int .i64 y0) ∧ W.cell? ⟨b, off + m * 2 + 1, none⟩ = some (.int .i64 y1)) (first | go_keep | exact HC.out _ H11.out.a.below | exact HC.out _ H10.out.a.below)
                  (first
                    | (go_at_call 11; refine (KB.out _ H10.out.b).mono ?_; rintro e w9 ⟨rfl, h9, ht9⟩; have H11 := Lib.hid (H10.out.flip.next h9 ht9).flip; clear h9 ht9)
                    | (go_at_call 11; refine (KA.out).mono ?_; rintro e w8 ⟨rfl, h8, ht8⟩; have H10 := Lib.hid ((H9.out.drewN 1).next h8 ht8); clear h8 ht8))
                go_wp2
                go_roundw
                case rel => exact ⟨m + 1, _, gs2, by omega, by go_num, rfl, H11.out⟩
                case measure => simp [intOf]; omega
              · have t6 : decide ((m : Int) < (s.length : Int)) = false := by simp; omega
                have t6' : decide (m < s.length) = false := by simp; omega
                go_wp2
                go_ret
                exact ⟨rfl, H9.out.a.below⟩
end Go.Proofs.Ytllihehkceaibaa.InResets
