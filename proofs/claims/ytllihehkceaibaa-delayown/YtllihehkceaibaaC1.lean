/- The walk of DelayOpens. -/
import Derived.Test.YtllihehkceaibaaPl
namespace Go.Proofs.Ytllihehkceaibaa
open Go.RowKit

theorem u8_of {a : Int} (h : (Lit.int .u8 a).wf = true) : 0 ≤ a ∧ a < 256 := by
  have h' : IntKind.u8.min ≤ a ∧ a ≤ IntKind.u8.max := by simpa [Lit.wf] using h
  have e1 : IntKind.u8.min = 0 := rfl
  have e2 : IntKind.u8.max = 255 := rfl
  omega
/-- So many asks were made. -/
def GoRel (w : World) (p g : Nat) (l : List Int) (N : Nat) (i : Value) (W : World) : Prop := ∃ (k : Nat) (X : World) (gs : List Gt), k ≤ N ∧ i = .int .i64 (k : Int) ∧ X = W ∧ gs.map distG = l ∧ Has w p g k gs X
end Go.Proofs.Ytllihehkceaibaa
namespace Go.Proofs.Ytllihehkceaibaa.InOpens
open Go.RowKit

set_option maxRecDepth 100000 in
set_option maxHeartbeats 4000000 in
theorem core (l : List Int) (a : Option Addr) (cap : Nat) (s : List Ask) (a2 : Option Addr) (cap2 t : Nat) (w : World) (hm : l.length ≤ maxLen) (ha : Ints w a cap l) (hm2 : s.length ≤ maxLen) (hs : Asks w a2 cap2 s) (ht : t < 256) :
    Calls Try.prog 7 #[.slice a l.length cap, .slice a2 s.length cap2, .int .u8 (t : Int)] w (Woke w) := by
  have HA := Lib.hid ha
  have HS := Lib.hid hs
  unfold maxLen at hm2
  clear ha hs
  go_enter Try.func7, Try.ntmps7
  go_wp2_with (fail)
  refine (awake _).mono ?_
  rintro e w1 ⟨rfl, hb1⟩
  have B1 := Lib.hid hb1
  clear hb1
  have KR := Lib.hid (rightAny (w := w1) hm (HA.out.below (Nat.le_refl _) B1.out))
  by_cases hno : rightB l = false ∨ 300 < s.length
  · by_cases hri : rightB l = false
    · rw [hri] at KR
      clear hno hri
      go_wp2_with (fail)
      with_reducible refine KR.out.mono ?_
      rintro e w2 ⟨rfl, rfl⟩
      go_wp2_with (fail)
      refine (awake _).mono ?_
      rintro e w2 ⟨rfl, hb2⟩
      go_wp2
      go_ret
      exact ⟨rfl, B1.out.trans (hb2.mono B1.out.size)⟩
    · have hri' : rightB l = true := by simpa using hri
      have t1 : decide ((300 : Int) < (s.length : Int)) = true := decide_eq_true (by rcases hno with h | h <;> first | exact absurd h hri | omega)
      rw [hri'] at KR
      clear hno hri hri'
      go_wp2_with (fail)
      with_reducible refine KR.out.mono ?_
      rintro e w2 ⟨rfl, rfl⟩
      go_wp2_with (fail)
      refine (awake _).mono ?_
      rintro e w2 ⟨rfl, hb2⟩
      go_wp2
      go_ret
      exact ⟨rfl, B1.out.trans (hb2.mono B1.out.size)⟩
  · have hri : rightB l = true := by
      by_cases h : rightB l = false
      · exact absurd (.inl h) hno
      · simpa using h
    have t1 : decide ((300 : Int) < (s.length : Int)) = false := decide_eq_false (by omega)
    have hs2 : s.length ≤ 300 := by omega
    obtain ⟨hd, l1, l2⟩ := rightB_yes.1 hri
    have HD := Lib.hid hd
    rw [hri] at KR
    have KN := Lib.hid (fun W (hb : Below w.heap.size w W) => has_new (w0 := w) (HA.out.below (Nat.le_refl _) hb) hb HD.out l1 l2)
    clear hno hri hd
    go_wp2_with (fail)
    with_reducible refine KR.out.mono ?_
    rintro e w2 ⟨rfl, rfl⟩
    clear KR
    obtain ⟨u, hu⟩ : ∃ u, u = t % l.length := ⟨_, rfl⟩
    have hul : u < l.length := by rw [hu]; exact Nat.mod_lt _ (by omega)
    have HQ := Lib.hid (show (t : Int) % (l.length : Int) = (u : Int) by rw [hu, Int.natCast_emod])
    clear hu
    have h0' : ¬ ((l.length : Int) = 0) := by omega
    go_wp2_with (fail)
    rw [HQ.out]
    refine (KN.out _ B1.out).mono ?_
    rintro e w3 ⟨p, g, rfl, h3, -, -, -⟩
    have H3 := Lib.hid h3
    clear h3 KN
    go_wp2
    go_loopw [10] (fun i W => GoRel w p g l s.length i W) (fun i _ => s.length - (intOf i).toNat)
    case atStart => exact ⟨0, _, _, by omega, rfl, rfl, dist_fresh l, H3.out⟩
    case round =>
      obtain ⟨k, X, gs, hk, rfl, rfl, hdist, hh⟩ := hrel
      have H4 := Lib.hid hh
      have HDI := Lib.hid hdist
      clear hh hdist H3
      by_cases hlt : k < s.length
      · have t4 : decide ((k : Int) < (s.length : Int)) = true := by simp; omega
        have hx : s[k]? = some s[k] := List.getElem?_eq_getElem hlt
        obtain ⟨b, off, rfl, hbl, hc⟩ := HS.out.at_ hx
        have HC := Lib.hid hc
        obtain ⟨x0, x1⟩ := hc _ H4.out.below
        have KG := Lib.hid (has_go s[k].1 s[k].2 (H4.out.drewN 1) (by omega))
        have HDG := Lib.hid ((dist_go gs s[k].1 s[k].2).trans HDI.out)
        clear hx hc
        generalize s[k] = x at x0 x1 KG HC HDG
        obtain ⟨y0, y1⟩ := x
        simp only at x0 x1 KG HC HDG
        generalize goS gs y0 y1 = gs2 at KG HDG
        generalize goV gs y0 y1 = v at KG
        have i1 : (0 : Int) ≤ (k : Int) := by omega
        have i2 : (k : Int) < (s.length : Int) := by omega
        go_wp2_with (fail)
        go_region_held3 (fun W => W.cell? ⟨b, off + k * 2, none⟩ = some (.int .i64 y0) ∧ W.cell? ⟨b, off + k * 2 + 1, none⟩ = some (.int .i64 y1)) (first | go_keep | exact HC.out _ H5.out.below)
          (first | (go_at_call 11; refine (KG.out).mono ?_; rintro e w4 ⟨rfl, h4, -⟩; have H5 := Lib.hid h4; clear h4))
        go_wp2
        go_roundw
        case rel => exact ⟨k + 1, _, gs2, by omega, by go_num, rfl, HDG.out, H5.out⟩
        case measure => simp [intOf]; omega
      · have t4 : decide ((k : Int) < (s.length : Int)) = false := by simp; omega
        have t4' : decide (k < s.length) = false := by simp; omega
        obtain ⟨x, hx⟩ : ∃ x, gs[u]? = some x := ⟨gs[u]'(by have := dist_len HDI.out; omega), List.getElem?_eq_getElem _⟩
        have HX := Lib.hid hx
        have HR := Lib.hid (H4.out.grd.ok _ (List.mem_of_getElem? hx))
        have HY := Lib.hid (dist_at HDI.out hx)
        clear hx
        obtain ⟨o1, o2, o3⟩ := open_at HX.out
        have KO := Lib.hid (openOf (u : Int) H4.out.grd)
        rw [o1, o2] at KO
        have hob := HR.out.open_
        clear o1 o2 o3
        obtain ⟨n, hn⟩ : ∃ n, n = openG x := ⟨_, rfl⟩
        have HN := Lib.hid hn
        rw [← hn] at KO hob
        clear hn
        obtain ⟨n1, n2⟩ := hob
        by_cases hbig : 1099511627776 < n
        · have t5 : decide (1099511627776 < n) = true := decide_eq_true hbig
          clear hbig
          go_wp2_with (fail)
          with_reducible refine KO.out.mono ?_
          rintro e w4 ⟨rfl, hb⟩
          have HB := Lib.hid (H4.out.below.trans (hb.mono H4.out.below.size))
          clear hb
          go_wp2
          go_ret
          exact ⟨rfl, HB.out⟩
        · have t5 : decide (1099511627776 < n) = false := decide_eq_false hbig
          have g1 := fun (W : World) (h : Has w p g k gs W) => has_go (u : Int) (n - 1) h (by omega)
          have g2 := fun (W : World) (K : Nat) (hK : K ≤ 1000000) (h : Has w p g K gs W) => has_go (u : Int) n h hK
          have HG1 : Hid (0 < n → ∀ W, Has w p g k gs W → Calls Try.prog 11 #[.pointer (some ⟨p, 0, none⟩), .int .i64 (u : Int), .int .i64 (n - 1)] W (Then (.int .i64 6) w p g (k + 1) gs W)) := by
            refine Lib.hid (fun hp W h => ?_)
            have e := g1 W h
            obtain ⟨e1, e2⟩ := go_at HX.out (n - 1)
            rw [e1, e2, ← HN.out, if_neg (by omega), if_pos (by omega), if_neg (by omega), if_pos (by omega)] at e
            exact e
          have HG2 : Hid (∀ W K, K ≤ 1000000 → Has w p g K gs W → Calls Try.prog 11 #[.pointer (some ⟨p, 0, none⟩), .int .i64 (u : Int), .int .i64 n] W (Then (.int .i64 0) w p g (K + 1) (gs.set u (pass x n)) W)) := by
            refine Lib.hid (fun W K hK h => ?_)
            have e := g2 W K hK h
            obtain ⟨e1, e2⟩ := go_at HX.out n
            rw [e1, e2, ← HN.out, if_neg (by omega), if_neg (by omega), if_neg (by omega), if_neg (by omega)] at e
            exact e
          have hul2 : u < gs.length := (List.getElem?_eq_some_iff.1 HX.out).1
          have HX2 : Hid ((gs.set u (pass x n))[u]? = some (pass x n)) := Lib.hid (by rw [List.getElem?_set, if_pos rfl, if_pos hul2])
          have HG3 : Hid (∀ W K, K ≤ 1000000 → Has w p g K (gs.set u (pass x n)) W → Calls Try.prog 11 #[.pointer (some ⟨p, 0, none⟩), .int .i64 (u : Int), .int .i64 n] W (Then (.int .i64 6) w p g (K + 1) (gs.set u (pass x n)) W)) := by
            refine Lib.hid (fun W K hK h => ?_)
            have e := has_go (u : Int) n h hK
            obtain ⟨e1, e2⟩ := go_at HX2.out n
            have ha1 := HR.out.a1
            rw [e1, e2, open_pass HR.out, if_neg (by omega), if_pos (by omega), if_neg (by omega), if_pos (by omega)] at e
            exact e
          have HCO1 : Hid (∀ W K, Has w p g K gs W → Calls Try.prog 13 #[.pointer (some ⟨p, 0, none⟩), .int .i64 (u : Int)] W (Says (.int .i64 x.2.2) W)) := Lib.hid (fun W K h => by
            have e := countOf (u : Int) h.grd
            rw [(open_at HX.out).2.2] at e
            exact e)
          have HCO2 : Hid (∀ W K, Has w p g K (gs.set u (pass x n)) W → Calls Try.prog 13 #[.pointer (some ⟨p, 0, none⟩), .int .i64 (u : Int)] W (Says (.int .i64 (x.2.2 + 1)) W)) := Lib.hid (fun W K h => by
            have e := countOf (u : Int) h.grd
            rw [(open_at HX2.out).2.2] at e
            exact e)
          have HOP2 : Hid (∀ W K, Has w p g K (gs.set u (pass x n)) W → Calls Try.prog 12 #[.pointer (some ⟨p, 0, none⟩), .int .i64 (u : Int)] W (Tells (.tuple #[.int .i64 (n + x.1), .bool true]) W)) := Lib.hid (fun W K h => by
            have e := openOf (u : Int) h.grd
            rw [(open_at HX2.out).1, (open_at HX2.out).2.1, open_pass HR.out] at e
            exact e)
          obtain ⟨b, off, ea, hbl, hc⟩ := HA.out.at_ HY.out
          have HC := Lib.hid hc
          have HE := Lib.hid ea
          clear hc ea g1 g2 HX2 HY
          have r1 := HR.out.a1
          have r2 := HR.out.a2
          have r3 := HR.out.c1
          have r4 := HR.out.c2
          generalize gs.set u (pass x n) = gs2 at HG2 HG3 HCO2 HOP2
          obtain ⟨xa, xt, xc⟩ := x
          simp only at r1 r2 r3 r4 HCO1 HCO2 HOP2 HC
          clear HR HX HN hbig
          have i1 : (0 : Int) ≤ (u : Int) := by omega
          have i2 : (u : Int) < (l.length : Int) := by omega
          have FIN : Hid (∀ (W : World) (K : Nat), K ≤ 900000 → Has w p g K gs W → True) := Lib.hid (fun _ _ _ _ => trivial)
          have hae := HE.out
          subst hae
          by_cases hpos : 0 < n
          · have t6 : decide (0 < n) = true := decide_eq_true hpos
            have KG1 := Lib.hid (HG1.out hpos)
            clear HG1 FIN HE
            go_wp2_with (fail)
            with_reducible refine KO.out.mono ?_
            rintro e w4 ⟨rfl, hb⟩
            have H6 := Lib.hid (H4.out.tells hb)
            clear hb H4
            go_wp2_with (fail)
            with_reducible refine (KG1.out _ H6.out).mono ?_
            rintro e w5 ⟨rfl, h5, -⟩
            have H7 := Lib.hid h5
            clear h5
            go_wp2_with (fail)
            with_reducible refine (HCO1.out _ _ H7.out).mono ?_
            rintro e w6 ⟨rfl, rfl⟩
            go_wp2_with (fail)
            with_reducible refine (HG2.out _ _ (by omega) H7.out).mono ?_
            rintro e w7 ⟨rfl, h7, -⟩
            have H8 := Lib.hid h7
            clear h7
            go_wp2_with (fail)
            with_reducible refine (HOP2.out _ _ H8.out).mono ?_
            rintro e w8 ⟨rfl, hb⟩
            have H9 := Lib.hid (H8.out.tells hb)
            clear hb
            have x0 := HC.out _ H9.out.below
            go_wp2_with (fail)
            with_reducible refine (HCO2.out _ _ H9.out).mono ?_
            rintro e w9 ⟨rfl, rfl⟩
            go_wp2_with (fail)
            with_reducible refine (HG3.out _ _ (by omega) H9.out).mono ?_
            rintro e w10 ⟨rfl, h10, -⟩
            have HB := Lib.hid h10.below
            clear h10
            go_wp2
            go_ret
            exact ⟨rfl, HB.out⟩
          · have t6 : decide (0 < n) = false := decide_eq_false hpos
            clear HG1 FIN HE
            go_wp2_with (fail)
            with_reducible refine KO.out.mono ?_
            rintro e w4 ⟨rfl, hb⟩
            have H7 := Lib.hid (H4.out.tells hb)
            clear hb H4
            go_wp2_with (fail)
            with_reducible refine (HCO1.out _ _ H7.out).mono ?_
            rintro e w6 ⟨rfl, rfl⟩
            go_wp2_with (fail)
            with_reducible refine (HG2.out _ _ (by omega) H7.out).mono ?_
            rintro e w7 ⟨rfl, h7, -⟩
            have H8 := Lib.hid h7
            clear h7
            go_wp2_with (fail)
            with_reducible refine (HOP2.out _ _ H8.out).mono ?_
            rintro e w8 ⟨rfl, hb⟩
            have H9 := Lib.hid (H8.out.tells hb)
            clear hb
            have x0 := HC.out _ H9.out.below
            go_wp2_with (fail)
            with_reducible refine (HCO2.out _ _ H9.out).mono ?_
            rintro e w9 ⟨rfl, rfl⟩
            go_wp2_with (fail)
            with_reducible refine (HG3.out _ _ (by omega) H9.out).mono ?_
            rintro e w10 ⟨rfl, h10, -⟩
            have HB := Lib.hid h10.below
            clear h10
            go_wp2
            go_ret
            exact ⟨rfl, HB.out⟩
end Go.Proofs.Ytllihehkceaibaa.InOpens
