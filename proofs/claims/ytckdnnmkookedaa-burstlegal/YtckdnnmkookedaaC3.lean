/- The walk of BurstLegal. -/
import Derived.Test.YtckdnnmkookedaaC2
namespace Go.Proofs.Ytckdnnmkookedaa
open Go.RowKit

set_option maxRecDepth 100000 in
set_option maxHeartbeats 8000000 in
theorem legals {A : Option Addr} {c n : Nat} {l : List Int} (b g u v : Int) (w : World) (h : Ints w A c l) (hn : l.length = n) :
    Calls Try.prog 3 #[.slice A n c, .int .i64 b, .int .i64 g, .int .i64 u, .int .i64 v] w (Woke w) := by
  have KA := Lib.hid (fun W => awake W)
  by_cases hl : n ≤ 300
  · have t1 : decide ((300 : Int) < (n : Int)) = false := by simp; omega
    have t1' : decide (300 < n) = false := by simp; omega
    have HI := Lib.hid h
    clear h
    go_enter Try.func3, Try.ntmps3
    go_wp2_with (fail)
    with_reducible refine (KA.out _).mono ?_
    rintro e w1 ⟨rfl, hb1⟩
    have HB1 := Lib.hid hb1
    have HI1 := Lib.hid (HI.out.tells hb1)
    have KR := Lib.hid (right HI1.out hn (by omega))
    clear hb1
    go_wp2_with (fail)
    with_reducible refine KR.out.mono ?_
    rintro e w2 ⟨r, rfl, hr, m, rfl⟩
    clear KR
    obtain ⟨X, hX⟩ : ∃ X, X = w1.drewN m := ⟨_, rfl⟩
    have HI2 : Hid (Ints X A c l) := Lib.hid (by rw [hX]; exact HI1.out.drewN m)
    have HB2 : Hid (Below w.heap.size w X) := Lib.hid (by rw [hX]; exact below_drewN HB1.out m)
    cases r
    · go_wp2_with (fail)
      rw [← hX]
      clear hX
      with_reducible refine (KA.out _).mono ?_
      rintro e w9 ⟨rfl, hb9⟩
      have HB9 := Lib.hid (HB2.out.trans (hb9.mono HB2.out.size))
      clear hb9
      go_wp2
      go_ret
      exact ⟨rfl, HB9.out⟩
    · have HG := Lib.hid (hr rfl)
      have HT := Lib.hid HG.out.1
      rw [← hX]
      clear hX hr HI1 HB1
      have KF := Lib.hid (fun W => fine b g W)
      cases hf : fineB b g
      · rw [hf] at KF
        clear hf
        go_wp2_with (fail)
        with_reducible refine (KF.out _).mono ?_
        rintro e w3 ⟨rfl, rfl⟩
        go_wp2_with (fail)
        with_reducible refine (KA.out _).mono ?_
        rintro e w9 ⟨rfl, hb9⟩
        have HB9 := Lib.hid (HB2.out.trans (hb9.mono HB2.out.size))
        clear hb9
        go_wp2
        go_ret
        exact ⟨rfl, HB9.out⟩
      · rw [hf] at KF
        obtain ⟨b0, b1, g0, g1⟩ := fine_yes hf
        clear hf
        have KG := Lib.hid (gap b HI2.out hn (by omega) HT.out b0 b1)
        have p1 := gapF_pos b0 l
        have p2 := gapF_le b l
        have KS : Hid (∀ W, Below X.heap.size X W → Calls Try.prog 14 #[.slice A n c, .int .i64 b] W (NewInts (startsF b l) W)) := Lib.hid (fun W hb => starts b (HI2.out.tells hb) hn (by omega) HT.out b0 b1)
        have KS2 : Hid (∀ W, Below X.heap.size X W → Calls Try.prog 15 #[.slice A n c, .int .i64 b] W (NewInts (startsF b l) W)) := Lib.hid (fun W hb => refStarts b (HI2.out.tells hb) hn (by omega) HT.out b0 b1)
        have KL : Hid (∀ W, Below X.heap.size X W → Calls Try.prog 16 #[.slice A n c, .int .i64 b, .int .i64 g] W (Gives (.bool (decide (g ≤ gapF b l))) W)) := Lib.hid (fun W hb => legal b g (HI2.out.tells hb) hn (by omega) HT.out b0 b1 g0 g1)
        have KQ : Hid (∀ W g', g' ≤ 1049576 → Below X.heap.size X W → Calls Try.prog 17 #[.slice A n c, .int .i64 b, .int .i64 g'] W (Gives (.bool (decide (g' ≤ gapF b l))) W)) := Lib.hid (fun W g' hg' hb => refLegal b g' (HI2.out.tells hb) hn (by omega) HT.out b0 b1 hg')
        have hsl : (startsF b l).length ≤ 300 := by have := starts_len b l; omega
        generalize gapF b l = G at *
        generalize startsF b l = S at *
        obtain ⟨q, hq⟩ : ∃ q, q = decide (g ≤ G) := ⟨_, rfl⟩
        rw [← hq] at KL
        have KQg := Lib.hid (fun W hb => KQ.out W g g1 hb)
        rw [← hq] at KQg
        clear hq
        have KQG := Lib.hid (fun W hb => KQ.out W G p2 hb)
        rw [show decide (G ≤ G) = true by simp] at KQG
        have s1 : decide (G < 1) = false := by simp; omega
        have s2 : decide (1049576 < G) = false := by simp; omega
        go_wp2_with (fail)
        with_reducible refine (KF.out _).mono ?_
        rintro e w3 ⟨rfl, rfl⟩
        go_wp2_with (fail)
        with_reducible refine KG.out.mono ?_
        rintro e w3 ⟨rfl, hb3⟩
        have HB3 := Lib.hid hb3
        clear hb3 KG KF KA
        go_wp2_with (fail)
        with_reducible refine (KS.out _ HB3.out).mono ?_
        rintro e w4 ⟨v4, rfl, ho, hb4⟩
        obtain ⟨_, A4, c4, rfl, hI4⟩ := own_ints ho
        have HI4 := Lib.hid hI4
        have HB4 := Lib.hid (HB3.out.trans (hb4.mono HB3.out.size))
        clear ho hI4 hb4 KS
        go_wp2_with (fail)
        with_reducible refine (KS2.out _ HB4.out).mono ?_
        rintro e w5 ⟨v5, rfl, ho, hb5⟩
        obtain ⟨_, A5, c5, rfl, hI5⟩ := own_ints ho
        have HI5 := Lib.hid hI5
        have HI45 := Lib.hid (HI4.out.tells hb5)
        have HB5 := Lib.hid (HB4.out.trans (hb5.mono HB4.out.size))
        have KE := Lib.hid (refSame rfl (by omega) HI45.out HI5.out)
        clear ho hI5 hb5 KS2
        go_wp2_with (fail)
        with_reducible refine KE.out.mono ?_
        rintro e w6 ⟨rfl, m6, rfl⟩
        have HB6 := Lib.hid (below_drewN HB5.out m6)
        clear KE
        go_wp2_with (fail)
        with_reducible refine (KL.out _ HB6.out).mono ?_
        rintro e w7 ⟨rfl, hbn⟩
        have HB7 := Lib.hid (HB6.out.trans (hbn.mono HB6.out.size))
        clear hbn
        go_wp2_with (fail)
        with_reducible refine (KQg.out _ HB7.out).mono ?_
        rintro e w8 ⟨rfl, hbn⟩
        have HB8 := Lib.hid (HB7.out.trans (hbn.mono HB7.out.size))
        clear hbn
        have sq : (q == q) = true := by simp
        have sq' : (q != q) = false := by simp
        go_wp2_with (fail)
        with_reducible refine (KQG.out _ HB8.out).mono ?_
        rintro e w10 ⟨rfl, hbn⟩
        have HB10 := Lib.hid (HB8.out.trans (hbn.mono HB8.out.size))
        clear hbn
        by_cases hG : G < 1049576
        · have s3 : decide (G < 1049576) = true := by simpa using hG
          have KQ1 := Lib.hid (fun W hb => KQ.out W (G + 1) (by omega) hb)
          rw [show decide (G + 1 ≤ G) = false by simp; omega] at KQ1
          go_wp2_with (fail)
          with_reducible refine (KQ1.out _ HB10.out).mono ?_
          rintro e W8 ⟨rfl, hbn⟩
          have HB11 := Lib.hid (HB10.out.trans (hbn.mono HB10.out.size))
          clear hbn
          have HI8 := Lib.hid (HI2.out.tells HB11.out)
          have HB12 := Lib.hid (HB2.out.trans (HB11.out.mono HB2.out.size))
          clear KQ1 KQ KQg KQG KL HI4 HI5 HI45 HB3 HB4 HB5 HB6 HB7 HB8 HB10 HB11
          go_wp2
          go_loopw [12, 13] (fun n' i W => InRel u v l W8 n' i W) (fun _ i _ => n - (intOf i).toNat)
          case atStart => exact ⟨0, 0, by omega, rfl, rfl, by simp [inF], by omega, rfl⟩
          case round =>
            obtain ⟨k, ct, hk, rfl, rfl, hc, hck, rfl⟩ := hrel
            by_cases hlt : k < n
            · have t2 : decide ((k : Int) < (n : Int)) = true := by simp; omega
              have hx : l[k]? = some (l[k]'(by omega)) := List.getElem?_eq_getElem (by omega)
              obtain ⟨b2, off, rfl, hb, hcell⟩ := HI8.out.at_ hx
              have ck := hcell _ (Below.refl _ _)
              have HN := Lib.hid (inF_next (u := u) (v := v) hx)
              have HC := Lib.hid hc
              clear hx hc hcell
              generalize l[k]'_ = x at HN ck
              by_cases h1 : u ≤ x
              · by_cases h2 : x < v
                · go_wp2
                  go_roundw
                  case rel => exact ⟨k + 1, ct + 1, by omega, by go_num, by go_num, by rw [HN.out, if_pos ⟨h1, h2⟩, ← HC.out], by omega, rfl⟩
                  case measure => simp [intOf]; omega
                · have t3 : decide (x < v) = false := by simp; omega
                  go_wp2
                  go_roundw
                  case rel => exact ⟨k + 1, ct, by omega, by go_num, rfl, by rw [HN.out, if_neg (fun h => h2 h.2), ← HC.out]; rfl, by omega, rfl⟩
                  case measure => simp [intOf]; omega
              · have t3 : decide (u ≤ x) = false := by simp; omega
                go_wp2
                go_roundw
                case rel => exact ⟨k + 1, ct, by omega, by go_num, rfl, by rw [HN.out, if_neg (fun h => h1 h.1), ← HC.out]; rfl, by omega, rfl⟩
                case measure => simp [intOf]; omega
            · have t2 : decide ((k : Int) < (n : Int)) = false := by simp; omega
              have t2' : decide (k < n) = false := by simp; omega
              obtain rfl : k = n := by omega
              rw [List.take_of_length_le (by omega)] at hc
              have KI := Lib.hid (in_ u v HI8.out hn (by omega))
              rw [← hc] at KI
              clear hc
              go_wp2_with (fail)
              with_reducible refine KI.out.mono ?_
              rintro e w9 ⟨rfl, rfl⟩
              go_wp2
              go_ret
              exact ⟨rfl, HB12.out⟩
        · have s3 : decide (G < 1049576) = false := by simpa using hG
          obtain ⟨W8, hW8⟩ : ∃ W8, W8 = w10 := ⟨_, rfl⟩
          rw [← hW8] at HB10 ⊢
          clear hW8
          have HI8 := Lib.hid (HI2.out.tells HB10.out)
          have HB12 := Lib.hid (HB2.out.trans (HB10.out.mono HB2.out.size))
          clear KQ KQg KQG KL HI4 HI5 HI45 HB3 HB4 HB5 HB6 HB7 HB8 HB10
          go_wp2
          go_loopw [12, 13] (fun n' i W => InRel u v l W8 n' i W) (fun _ i _ => n - (intOf i).toNat)
          case atStart => exact ⟨0, 0, by omega, rfl, rfl, by simp [inF], by omega, rfl⟩
          case round =>
            obtain ⟨k, ct, hk, rfl, rfl, hc, hck, rfl⟩ := hrel
            by_cases hlt : k < n
            · have t2 : decide ((k : Int) < (n : Int)) = true := by simp; omega
              have hx : l[k]? = some (l[k]'(by omega)) := List.getElem?_eq_getElem (by omega)
              obtain ⟨b2, off, rfl, hb, hcell⟩ := HI8.out.at_ hx
              have ck := hcell _ (Below.refl _ _)
              have HN := Lib.hid (inF_next (u := u) (v := v) hx)
              have HC := Lib.hid hc
              clear hx hc hcell
              generalize l[k]'_ = x at HN ck
              by_cases h1 : u ≤ x
              · by_cases h2 : x < v
                · go_wp2
                  go_roundw
                  case rel => exact ⟨k + 1, ct + 1, by omega, by go_num, by go_num, by rw [HN.out, if_pos ⟨h1, h2⟩, ← HC.out], by omega, rfl⟩
                  case measure => simp [intOf]; omega
                · have t3 : decide (x < v) = false := by simp; omega
                  go_wp2
                  go_roundw
                  case rel => exact ⟨k + 1, ct, by omega, by go_num, rfl, by rw [HN.out, if_neg (fun h => h2 h.2), ← HC.out]; rfl, by omega, rfl⟩
                  case measure => simp [intOf]; omega
              · have t3 : decide (u ≤ x) = false := by simp; omega
                go_wp2
                go_roundw
                case rel => exact ⟨k + 1, ct, by omega, by go_num, rfl, by rw [HN.out, if_neg (fun h => h1 h.1), ← HC.out]; rfl, by omega, rfl⟩
                case measure => simp [intOf]; omega
            · have t2 : decide ((k : Int) < (n : Int)) = false := by simp; omega
              have t2' : decide (k < n) = false := by simp; omega
              obtain rfl : k = n := by omega
              rw [List.take_of_length_le (by omega)] at hc
              have KI := Lib.hid (in_ u v HI8.out hn (by omega))
              rw [← hc] at KI
              clear hc
              go_wp2_with (fail)
              with_reducible refine KI.out.mono ?_
              rintro e w9 ⟨rfl, rfl⟩
              go_wp2
              go_ret
              exact ⟨rfl, HB12.out⟩
  · have t1 : decide ((300 : Int) < (n : Int)) = true := by simp; omega
    have t1' : decide (300 < n) = true := by simp; omega
    clear h
    go_enter Try.func3, Try.ntmps3
    go_wp2_with (fail)
    with_reducible refine (KA.out _).mono ?_
    rintro e w1 ⟨rfl, hb1⟩
    have HB1 := Lib.hid hb1
    clear hb1
    go_wp2_with (fail)
    with_reducible refine (KA.out _).mono ?_
    rintro e w9 ⟨rfl, hb9⟩
    have HB9 := Lib.hid (HB1.out.trans (hb9.mono HB1.out.size))
    clear hb9
    go_wp2
    go_ret
    exact ⟨rfl, HB9.out⟩
end Go.Proofs.Ytckdnnmkookedaa
