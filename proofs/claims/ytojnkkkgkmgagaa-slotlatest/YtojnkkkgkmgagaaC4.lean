/- The walk of the statement on what is reserved, freed and reserved again. -/
import Derived.Test.YtojnkkkgkmgagaaOw
import Derived.Test.YtojnkkkgkmgagaaFl
import Derived.BigRegion
namespace Go.Proofs.Ytojnkkkgkmgagaa.Latest
open Go.RowKit Go.Sort

def LatRel (w : World) (p N : Nat) (did at_ i : Value) (W : World) : Prop :=
  ∃ (k : Nat) (qs : List Rv) (m : List Ky) (g : Option Nat) (Ad Ae : Option Addr) (cd ce : Nat), k ≤ N ∧ qs.length ≤ k ∧ did = .slice Ad qs.length cd ∧ at_ = .slice Ae qs.length ce ∧ i = .int .i64 (k : Int) ∧ Has w p 256 g m W ∧
    W.ownsRow w.heap.size 31 6 (.slice Ad qs.length cd) qs.length (flatA (qs.map fun q => q.1)) ∧ W.ownsRow w.heap.size 3 1 (.slice Ae qs.length ce) qs.length (cellsI (qs.map fun q => q.2)) ∧ m.Perm (qs.map slQ) ∧ ∀ q ∈ qs, Fit q

theorem LatRel.next {w W : World} {p N k n : Nat} {qs : List Rv} {q : Rv} {m m2 : List Ky} {g : Option Nat} {gd ge cd ce : Nat} (hn : qs.length = n) (hk : k < N) (hq : n ≤ k) (h : Has w p 256 g m2 W)
    (hd : W.ownsRow w.heap.size 31 6 (.slice (some ⟨gd, 0, none⟩) (n + 1) cd) (n + 1) (flatA (qs.map fun q => q.1) ++ cellsA q.1)) (he : W.ownsRow w.heap.size 3 1 (.slice (some ⟨ge, 0, none⟩) (n + 1) ce) (n + 1) (cellsI (qs.map fun q => q.2) ++ [.int .i64 q.2]))
    (hp : m.Perm (qs.map slQ)) (hm : m2 = putK m (slQ q)) (hf : ∀ q ∈ qs, Fit q) (hfq : Fit q) : LatRel w p N (.slice (some ⟨gd, 0, none⟩) (n + 1) cd) (.slice (some ⟨ge, 0, none⟩) (n + 1) ce) (.int .i64 ((k : Int) + 1)) W := by
  subst hn
  refine ⟨k + 1, qs ++ [q], m2, g, _, _, cd, ce, by omega, by simp; omega, by rw [List.length_append]; rfl, by rw [List.length_append]; rfl, rfl, h, ?_, ?_, ?_, ?_⟩
  · rw [List.map_append, flatA_append, List.length_append]
    simpa [flatA] using hd
  · rw [List.map_append, List.length_append]
    simpa [cellsI] using he
  · rw [hm, List.map_append]
    refine (put_perm m (slQ q)).trans ((hp.cons _).trans ?_)
    exact (List.perm_append_comm (l₁ := [slQ q]) (l₂ := qs.map slQ))
  · intro x hx
    rcases List.mem_append.1 hx with h' | h'
    · exact hf x h'
    · rw [List.mem_singleton.1 h']; exact hfq

theorem own_form6 {w : World} {B n size : Nat} {e : TypeId} {v : Value} {cs : List Value} (h : w.ownsRow B e size v n cs) : ∃ a cap, v = .slice a n cap ∧ n ≤ cap ∧ (0 < n → ∃ g, a = some ⟨g, 0, none⟩ ∧ ∀ j u, cs[j]? = some u → w.cell? ⟨g, j, none⟩ = some u) := own_form h
def AllRel (n : Nat) (w4 : World) (i : Value) (W : World) : Prop := ∃ j : Nat, j ≤ n ∧ i = .int .i64 (j : Int) ∧ RowKit.Below w4.heap.size w4 W

set_option maxRecDepth 100000 in
set_option maxHeartbeats 16000000 in
theorem core (l : List Ac) (a : Option Addr) (cap : Nat) (d : Int) (w : World) (hm : l.length ≤ maxLen) (hr : ActsIn w a cap l) (hd : 0 ≤ d ∧ d < 256) : Calls Try.prog 4 #[.slice a l.length cap, .int .u8 d] w (Woke w) := by
  obtain ⟨d1, d2⟩ := hd
  have HR := Lib.hid hr
  unfold maxLen at hm
  clear hr
  have KN := Lib.hid (fun W (hb : Below w.heap.size w W) => has_new (w0 := w) (W := W) 256 hb (by omega) (by omega))
  go_enter Try.func4, Try.ntmps4
  go_wp2_with (fail)
  refine (awake _).mono ?_
  rintro e w1 ⟨rfl, hb1⟩
  have B1 := Lib.hid hb1
  clear hb1
  by_cases hz : l.length = 0
  · have t0 : ((l.length : Int) == 0) = true := by rw [beq_iff_eq]; omega
    go_wp2_with (fail)
    refine (awake _).mono ?_
    rintro e w3 ⟨rfl, hb3⟩
    go_wp2
    go_ret
    exact ⟨rfl, B1.out.trans (hb3.mono B1.out.size)⟩
  have t0 : ((l.length : Int) == 0) = false := by rw [beq_eq_false_iff_ne]; omega
  by_cases h40 : 40 < l.length
  · have t1 : decide ((40 : Int) < (l.length : Int)) = true := by simp; omega
    go_wp2_with (fail)
    refine (awake _).mono ?_
    rintro e w3 ⟨rfl, hb3⟩
    go_wp2
    go_ret
    exact ⟨rfl, B1.out.trans (hb3.mono B1.out.size)⟩
  have t1 : decide ((40 : Int) < (l.length : Int)) = false := by simp; omega
  have KF := Lib.hid (few l a l.length cap rfl (by omega) (HR.out.below (Nat.le_refl _) B1.out))
  by_cases hf : fewB l = true
  rotate_left
  · rw [show fewB l = false by simpa using hf] at KF
    go_wp2_with (fail)
    refine KF.out.mono ?_
    rintro e w2 ⟨rfl, q, rfl⟩
    have B2 := Lib.hid (below_drewN B1.out q)
    go_wp2_with (fail)
    refine (awake _).mono ?_
    rintro e w3 ⟨rfl, hb3⟩
    go_wp2
    go_ret
    exact ⟨rfl, B2.out.trans (hb3.mono B2.out.size)⟩
  rw [hf] at KF
  have HFW := Lib.hid hf
  clear hf
  go_wp2_with (fail)
  refine KF.out.mono ?_
  rintro e w2 ⟨rfl, q, rfl⟩
  have B2 := Lib.hid (below_drewN B1.out q)
  clear KF
  go_wp2_with (fail)
  refine (KN.out _ B2.out).mono ?_
  rintro e w3 ⟨rfl, h2, _⟩
  have H2 := Lib.hid h2
  clear h2
  generalize (w1.drewN q).heap.size = p at H2 ⊢
  go_wp2
  go_loopw [7, 8, 9] (fun x y i W => LatRel w p l.length x y i W) (fun _ _ i _ => l.length - (intOf i).toNat)
  case atStart => exact ⟨0, [], [], none, none, none, 0, 0, by omega, by simp, rfl, rfl, rfl, H2.out, World.ownsRow_nil _ _ _ _, World.ownsRow_nil _ _ _ _, List.Perm.nil, fun q hq => by simp at hq⟩
  case round =>
    obtain ⟨k, qs, m, gg, Ad, Ae, cd, ce, hk, hqk, rfl, rfl, rfl, hh, hd, he, hpm, hfit⟩ := hrel
    obtain ⟨n, hn⟩ : ∃ n, n = qs.length := ⟨_, rfl⟩
    have HN := Lib.hid hn.symm
    rw [← hn] at hqk hd he ⊢
    clear hn
    have H3 := Lib.hid hh
    have HD := Lib.hid hd
    have HE := Lib.hid he
    have HPM := Lib.hid hpm
    have HFT := Lib.hid hfit
    clear hh hd he hpm hfit
    by_cases hlt : k < l.length
    · have t4 : decide ((k : Int) < (l.length : Int)) = true := by simp; omega
      have hx : l[k]? = some l[k] := List.getElem?_eq_getElem hlt
      have HC := Lib.hid (fun w' (hb : Below w.heap.size w w') => (HR.out.below (Nat.le_refl _) hb).cells hx)
      obtain ⟨b, off, rfl, hbl, x0, x1, x2, x3, x4, x5⟩ := HC.out _ H3.out.below
      clear hx
      generalize l[k] = x at HC x0 x1 x2 x3 x4 x5
      obtain ⟨y0, y1, y2, y3, y4, y5⟩ := x
      simp only at HC x0 x1 x2 x3 x4 x5
      clear x0
      have i1 : (0 : Int) ≤ (k : Int) := by omega
      have HFN := Lib.hid (fun h => fit_new (room := 256) (m := m) (x := (y0, y1, y2, y3, y4, y5)) h)
      have HME : Hid (resE 256 m y1 y2 y3 y4 y5 ≠ 0 → resM 256 m y1 y2 y3 y4 y5 = m) := fun h => by unfold resM; rw [if_neg h]
      simp only at HFN
      have KP : Hid (∀ q, Calls Try.prog 12 #[.pointer (some ⟨p, 0, none⟩), .int .i64 y1, .int .i64 y2, .int .i64 y3, .int .i64 y4, .int .i64 y5] (wr.drewN q) (Then (.tuple #[.int .i64 (resP 256 m y1 y2 y3 y4 y5), .int .i64 (resE 256 m y1 y2 y3 y4 y5)]) w p 256 gg (resM 256 m y1 y2 y3 y4 y5) (wr.drewN q))) := fun q => has_reserve y1 y2 y3 y4 y5 (H3.out.drewN q)
      generalize resM 256 m y1 y2 y3 y4 y5 = m2 at KP HFN HME
      generalize resP 256 m y1 y2 y3 y4 y5 = rp at KP HFN
      generalize resE 256 m y1 y2 y3 y4 y5 = re at KP HFN HME
      have H5C : Hid (∀ w', Below w.heap.size w w' → w'.cell? ⟨b, off + k * 6 + 1, none⟩ = some (.int .i64 y1) ∧ w'.cell? ⟨b, off + k * 6 + 2, none⟩ = some (.int .i64 y2) ∧ w'.cell? ⟨b, off + k * 6 + 3, none⟩ = some (.int .i64 y3) ∧ w'.cell? ⟨b, off + k * 6 + 4, none⟩ = some (.int .i64 y4) ∧ w'.cell? ⟨b, off + k * 6 + 5, none⟩ = some (.int .i64 y5)) := fun w' hb => by
        obtain ⟨b', off', e, _, _, z⟩ := HC.out w' hb
        cases e
        exact z
      have H0C : Hid (∀ w', Below w.heap.size w w' → w'.cell? ⟨b, off + k * 6, none⟩ = some (.int .i64 y0)) := fun w' hb => by
        obtain ⟨b', off', e, _, z, _⟩ := HC.out w' hb
        cases e
        exact z
      clear HC
      have hbw : b < w.heap.size := by
        obtain ⟨b', off', e, hb', _⟩ := HR.out.form (by omega)
        cases e
        exact hb'
      go_upto_region 11 with fail
      go_region_held3 (fun w' => w'.cell? ⟨b, off + k * 6 + 1, none⟩ = some (.int .i64 y1) ∧ w'.cell? ⟨b, off + k * 6 + 2, none⟩ = some (.int .i64 y2) ∧ w'.cell? ⟨b, off + k * 6 + 3, none⟩ = some (.int .i64 y3) ∧ w'.cell? ⟨b, off + k * 6 + 4, none⟩ = some (.int .i64 y4) ∧ w'.cell? ⟨b, off + k * 6 + 5, none⟩ = some (.int .i64 y5)) (first | go_keep | (with_reducible exact H5C.out _ h4.below))
        ((go_at_call 12; refine (KP.out 1).mono ?_; rintro e w4 ⟨rfl, g4, h4, ht4, _⟩))
      have H4 := Lib.hid h4
      have HD4 := Lib.hid (own_turns (own_below HD.out (below_drewN (Below.refl _ _) 1)) ht4 (fun k hk => H3.out.apart HD.out (by decide) (by decide) k hk))
      have HE4 := Lib.hid (own_turns (own_below HE.out (below_drewN (Below.refl _ _) 1)) ht4 (fun k hk => H3.out.apart HE.out (by decide) (by decide) k hk))
      clear h4 ht4 x1 x2 x3 x4 x5
      by_cases hre : re = 0
      · subst hre
        obtain ⟨hfq, hme⟩ := HFN.out rfl
        have HFQ := Lib.hid hfq
        have HMM := Lib.hid hme
        clear HFN HME hfq hme
        obtain ⟨z1, z2, z3, z4, z5⟩ := H5C.out _ H4.out.below
        have z0 := H0C.out _ H4.out.below
        have hb4 : b < w4.heap.size := Nat.lt_of_lt_of_le hbw H4.out.below.size
        obtain ⟨iA, hiA, hzA, hsA, hbA⟩ := actInfo
        obtain ⟨iI, hiI, hzI, hsI, hbI⟩ := intInfo
        have HIA := Lib.hid hiA
        have HZA := Lib.hid hzA
        have HSA := Lib.hid hsA
        have HBA := Lib.hid hbA
        have HII := Lib.hid hiI
        have HZI := Lib.hid hzI
        have HSI := Lib.hid hsI
        have HBI := Lib.hid hbI
        clear hiA hzA hsA hbA hiI hzI hsI hbI
        have HD5 := Lib.hid (own_below HD4.out (below_new w4 (.cells #[.int .i64 y0, .int .i64 y1, .int .i64 y2, .int .i64 y3, .int .i64 y4, .int .i64 y5] 31)))
        have HE5 := Lib.hid (own_below HE4.out (below_new w4 (.cells #[.int .i64 y0, .int .i64 y1, .int .i64 y2, .int .i64 y3, .int .i64 y4, .int .i64 y5] 31)))
        have H5 := Lib.hid (H4.out.keep (below_new w4 (.cells #[.int .i64 y0, .int .i64 y1, .int .i64 y2, .int .i64 y3, .int .i64 y4, .int .i64 y5] 31)))
        have HNA := Lib.hid (World.news_of_block (Lies.made w4 31 #[.int .i64 y0, .int .i64 y1, .int .i64 y2, .int .i64 y3, .int .i64 y4, .int .i64 y5]))
        have H1A := Lib.hid (one_cellsA (y0, y1, y2, y3, y4, y5))
        have HSZ := Lib.hid (show w.heap.size ≤ (w4.alloc (.cells #[.int .i64 y0, .int .i64 y1, .int .i64 y2, .int .i64 y3, .int .i64 y4, .int .i64 y5] 31)).heap.size from H5.out.below.size)
        have HNN : Hid (n ≤ 40) := Lib.hid (by omega)
        go_wp2_with (first
          | (at_builtin
             refine wpList_append_lies _ rfl _ _ 22 rfl w.heap.size 31 iA _ 6 48 Try.underlying22 HIA.out HZA.out HSA.out HBA.out rfl (by omega) (.slice Ad n cd) n _ rfl HD5.out ⟨w4.heap.size, 0, none⟩ 1 1 (cellsA (y0, y1, y2, y3, y4, y5)) rfl rfl HNA.out H1A.out (by omega) (by have := HNN.out; unfold maxLen; omega) (by have := HNN.out; omega) HSZ.out _ rfl ?_
             intro g5 c5 w5 hown hgrow hat hlt5
             have HD6 := Lib.hid hown
             have HG5 := Lib.hid hgrow
             have H6 := Lib.hid (H5.out.grown hgrow (fun k hk => ⟨H5.out.apart HD5.out (by decide) (by decide) k hk, (own_type HD5.out hk).1⟩))
             have HE6 := Lib.hid (own_grown HE5.out hgrow (fun k hk => own_unlike HD5.out HE5.out (by decide) hk))
             have HD7 := Lib.hid (own_below hown (below_new w5 (.cells #[.int .i64 rp] 3)))
             have HE7 := Lib.hid (own_below HE6.out (below_new w5 (.cells #[.int .i64 rp] 3)))
             have H7 := Lib.hid (H6.out.keep (below_new w5 (.cells #[.int .i64 rp] 3)))
             have HNI := Lib.hid (World.news_of_block (Lies.made w5 3 #[.int .i64 rp]))
             have HS7 := Lib.hid (show w.heap.size ≤ (w5.alloc (.cells #[.int .i64 rp] 3)).heap.size from H7.out.below.size)
             clear hown hgrow hat hlt5 z0 z1 z2 z3 z4 z5)
          | (at_builtin
             refine wpList_append_lies _ rfl _ _ 44 rfl w.heap.size 3 iI _ 1 8 Try.underlying44 HII.out HZI.out HSI.out HBI.out rfl (by omega) (.slice Ae n ce) n _ rfl HE7.out ⟨w5.heap.size, 0, none⟩ 1 1 [.int .i64 rp] rfl rfl HNI.out (by simp [Value.oneCell']) (by omega) (by have := HNN.out; unfold maxLen; omega) (by have := HNN.out; omega) HS7.out _ rfl ?_
             intro g6 c6 w6 hown hgrow hat hlt6
             have HE8 := Lib.hid hown
             have H8 := Lib.hid (H7.out.grown hgrow (fun k hk => ⟨H7.out.apart HE7.out (by decide) (by decide) k hk, (own_type HE7.out hk).1⟩))
             have HD8 := Lib.hid (own_grown HD7.out hgrow (fun k hk => own_unlike HE7.out HD7.out (by decide) hk))
             obtain ⟨v1, v2, v3, v4, v5⟩ := H5C.out _ H8.out.below
             have hb6 : b < w6.heap.size := Nat.lt_of_lt_of_le hbw H8.out.below.size
             clear hown hgrow hat hlt6))
        clear HD5 HE5 HD6 HE6 HD7 HE7 H5 H6 H7 HNA HNI HG5 HSZ HS7 HIA HZA HSA HBA HII HZI HSI HBI H1A
        obtain ⟨⟨r1, r2, r3, r4, r5⟩, r6, r7⟩ := HFQ.out
        simp only at r1 r2 r3 r4 r5 r6 r7
        have t7 : decide (rp < y4) = false := by simp; omega
        have t8 : decide (y5 < rp + y3) = false := by simp; omega
        go_upto_region 15 with fail
        go_quiet (fail)
        rename_i nq
        have hrel2 := Lib.hid (LatRel.next (w := w) (W := w6.drewN nq) (p := p) (N := l.length) (k := k) (q := ((y0, y1, y2, y3, y4, y5), rp)) HN.out hlt hqk (H8.out.drewN nq) (own_below HD8.out (below_drewN (Below.refl _ _) nq)) (own_below HE8.out (below_drewN (Below.refl _ _) nq)) HPM.out HMM.out HFT.out HFQ.out)
        clear v1 v2 v3 v4 v5
        go_wp2
        go_roundw
        case rel => exact hrel2.out
        case measure => simp [intOf]; omega
      · have t6 : (re == 0) = false := by rw [beq_eq_false_iff_ne]; exact hre
        have HM := Lib.hid (HME.out hre)
        clear HFN HME hre
        go_wp2
        go_roundw
        case rel => exact ⟨k + 1, qs, m, g4, Ad, Ae, cd, ce, by omega, by rw [HN.out]; omega, by rw [HN.out], by rw [HN.out], by go_num, by rw [← HM.out]; exact H4.out, by rw [HN.out]; exact HD4.out, by rw [HN.out]; exact HE4.out, HPM.out, HFT.out⟩
        case measure => simp [intOf]; omega
    · have t4 : decide ((k : Int) < (l.length : Int)) = false := by simp; omega
      have t4' : decide (k < l.length) = false := by simp; omega
      have HML := Lib.hid (show m.length = n by rw [HPM.out.length_eq, List.length_map]; exact HN.out)
      have hn40 : n ≤ 40 := by omega
      have HGD := Lib.hid H3.out.tab.good
      have KS : Hid (∀ W (m : List Ky) (g : Option Nat), m.length = n → Has w p 256 g m W → Calls Try.prog 16 #[.pointer (some ⟨p, 0, none⟩)] W (Rows1 n m W)) := fun W m g hl h => by
        have := all_of h.tab
        rw [hl] at this
        exact this
      go_wp2_with (fail)
      with_reducible refine (KS.out _ m gg HML.out H3.out).mono ?_
      rintro e w4 ⟨A, c, rfl, hg4⟩
      have H4 := Lib.hid (H3.out.keep hg4.1)
      have HD4 := Lib.hid (own_below HD.out hg4.1)
      have HE4 := Lib.hid (own_below HE.out hg4.1)
      have HK4 := Lib.hid hg4.keys
      have hnc : n ≤ c := hg4.row.1
      clear hg4 H3 HD HE
      go_wp2
      go_loopw [13] (fun i W => AllRel n w4 i W) (fun i _ => n - (intOf i).toNat)
      case atStart => exact ⟨0, by omega, rfl, RowKit.Below.refl _ _⟩
      case round =>
        obtain ⟨j, hj, rfl, hb⟩ := hrel
        have HB := Lib.hid hb
        clear hb
        by_cases hjn : j < n
        · have t5 : decide ((j : Int) < (n : Int)) = true := by simp; omega
          have hjm : j < m.length := by have := HML.out; omega
          have hx : m[j]? = some m[j] := List.getElem?_eq_getElem hjm
          have hKW := HK4.out.below (Nat.le_refl _) HB.out
          obtain ⟨gb, off, rfl, hgb, x0, x1, x2, x3⟩ := hKW.cells hx
          have HKT : Hid (∀ W, RowKit.Below wr.heap.size wr W → Keys W (some ⟨gb, off, none⟩) c (m.take j)) := fun W hW => (hKW.below (Nat.le_refl _) hW).take j
          have HAP := Lib.hid (good_apart HGD.out hx)
          have HOD := Lib.hid (fun (q : Nat) (s x : Ky) => good_order (i := q) (s := s) (x := x) HGD.out)
          have HX := Lib.hid hx
          have HTL := Lib.hid (show (m.take j).length = j by rw [List.length_take]; omega)
          clear hx
          generalize m[j] = s at x0 x1 x2 x3 HAP HX
          obtain ⟨s0, s1, s2, s3⟩ := s
          simp only at x0 x1 x2 x3
          have KA : Hid (∀ W, RowKit.Below wr.heap.size wr W → Calls Try.prog 13 #[.slice (some ⟨gb, off, none⟩) j c, .agg #[.int .i64 s0, .int .i64 s1, .int .i64 s2, .int .i64 s3]] W (Tells (.bool true) W)) := fun W hW => by
            have := refApart (m.take j) (s0, s1, s2, s3) (some ⟨gb, off, none⟩) j c HTL.out (by omega) (HKT.out W hW)
            rw [HAP.out] at this
            exact this
          have CC := Lib.hid (fun dr os => (KA.out (grow (redrawn wr dr) os) (below_regrown wr dr os)).regrown_of)
          have X0 := cell_regrown x0
          have X1 := cell_regrown x1
          have X2 := cell_regrown x2
          have X3 := cell_regrown x3
          have i1 : (0 : Int) ≤ (j : Int) := by omega
          have i2 : j ≤ c := by omega
          have i3 : j ≤ n := by omega
          by_cases h0 : 0 < j
          · have t6 : decide ((0 : Int) < (j : Int)) = true := by simp; omega
            have hx' : m[j - 1]? = some (m[j - 1]'(by omega)) := List.getElem?_eq_getElem _
            obtain ⟨gb', off', e', _, _, _, w2, _⟩ := hKW.cells hx'
            cases e'
            have HOR := Lib.hid (HOD.out (j - 1) (s0, s1, s2, s3) (m[j - 1]'(by omega)) (by rw [show j - 1 + 1 = j by omega]; exact HX.out) hx')
            clear hx'
            generalize m[j - 1]'(by omega) = s' at w2 HOR
            obtain ⟨u0, u1, u2, u3⟩ := s'
            simp only at w2 HOR
            have t7 : decide (s2 < u2) = false := by have := HOR.out; simp only [decide_eq_false_iff_not]; exact this
            have Z2 := cell_regrown w2
            have i4 : j - 1 < n := by omega
            clear x0 x1 x2 x3 w2
            go_upto_region 21 with fail
            refine wp_region_quiet_below (by kernel_rfl) (by kernel_rfl) ?_
            repeat (go_big_quiet_step (with_reducible first | exact CC.out _ _))
            refine wpQuiet_nil ?_
            intro _ hw'
            obtain ⟨⟨dr, os⟩, hw''⟩ := hw'
            subst hw''
            have HB2 := Lib.hid (HB.out.trans ((below_regrown wr dr os).mono HB.out.size))
            clear X0 X1 X2 X3 Z2
            go_wp2
            go_roundw
            case rel => exact ⟨j + 1, by omega, by go_num, HB2.out⟩
            case measure => simp [intOf]; omega
          · have t6 : decide ((0 : Int) < (j : Int)) = false := by simp; omega
            clear x0 x1 x2 x3
            go_upto_region 21 with fail
            refine wp_region_quiet_below (by kernel_rfl) (by kernel_rfl) ?_
            repeat (go_big_quiet_step (with_reducible first | exact CC.out _ _))
            refine wpQuiet_nil ?_
            intro _ hw'
            obtain ⟨⟨dr, os⟩, hw''⟩ := hw'
            subst hw''
            have HB2 := Lib.hid (HB.out.trans ((below_regrown wr dr os).mono HB.out.size))
            clear X0 X1 X2 X3
            go_wp2
            go_roundw
            case rel => exact ⟨j + 1, by omega, by go_num, HB2.out⟩
            case measure => simp [intOf]; omega
        · have t5 : decide ((j : Int) < (n : Int)) = false := by simp; omega
          have t5' : decide (j < n) = false := by simp; omega
          have H5 := Lib.hid (H4.out.keep HB.out)
          have HD5 := Lib.hid (own_below HD4.out HB.out)
          have HE5 := Lib.hid (own_below HE4.out HB.out)
          by_cases hn0 : n = 0
          · have t6 : ((n : Int) == 0) = true := by rw [beq_iff_eq]; omega
            go_wp2
            go_ret
            exact ⟨rfl, H5.out.below⟩
          · have t6 : ((n : Int) == 0) = false := by rw [beq_eq_false_iff_ne]; omega
            have hk1 := Int.emod_nonneg d (show (n : Int) ≠ 0 by omega)
            have hk2 := Int.emod_lt_of_pos d (show 0 < (n : Int) by omega)
            obtain ⟨KK, hKK⟩ : ∃ KK : Nat, d % (n : Int) = (KK : Int) := ⟨(d % (n : Int)).toNat, by omega⟩
            have hKn : KK < n := by omega
            have HKK := Lib.hid hKK
            clear hKK
            obtain ⟨A1, c1, e1, hc1, hf1⟩ := own_form6 HD5.out
            cases e1
            obtain ⟨gd, rfl, _⟩ := hf1 (by omega)
            obtain ⟨A2, c2, e2, hc2, hf2⟩ := own_form6 HE5.out
            cases e2
            obtain ⟨ge, rfl, _⟩ := hf2 (by omega)
            clear hf1 hf2
            have hKq : KK < qs.length := by have := HN.out; omega
            have hq : qs[KK]? = some qs[KK] := List.getElem?_eq_getElem hKq
            have HCD : Hid (∀ W : World, W.ownsRow w.heap.size 31 6 (.slice (some ⟨gd, 0, none⟩) n cd) n (flatA (qs.map fun q => q.1)) → ∀ i v, (cellsA qs[KK].1)[i]? = some v → W.cell? ⟨gd, KK * 6 + i, none⟩ = some v) := fun W hW i v hv => by
              obtain ⟨A', c', e', _, hf'⟩ := own_form6 hW
              cases e'
              obtain ⟨g', e'', hc'⟩ := hf' (by omega)
              cases e''
              exact hc' _ _ (flatA_at (i := KK) i v (by rw [List.getElem?_map, hq]; rfl) hv)
            have HCE : Hid (∀ W : World, W.ownsRow w.heap.size 3 1 (.slice (some ⟨ge, 0, none⟩) n ce) n (cellsI (qs.map fun q => q.2)) → W.cell? ⟨ge, KK, none⟩ = some (.int .i64 qs[KK].2)) := fun W hW => by
              obtain ⟨A', c', e', _, hf'⟩ := own_form6 hW
              cases e'
              obtain ⟨g', e'', hc'⟩ := hf' (by omega)
              cases e''
              exact hc' _ _ (cellsI_at (by rw [List.getElem?_map, hq]; rfl))
            have HFQ := HFT.out qs[KK] (List.getElem_mem _)
            have HQM : slQ qs[KK] ∈ m := HPM.out.mem_iff.2 (List.mem_map_of_mem (List.getElem_mem _))
            have hag := again HGD.out HQM HFQ (by have := HML.out; omega)
            have hidm : qs[KK].1.2.1 ∈ m.map idK := List.mem_map.2 ⟨_, HQM, rfl⟩
            clear hq HFQ HQM
            generalize qs[KK] = x at HCD HCE hag hidm
            obtain ⟨⟨y0, y1, y2, y3, y4, y5⟩, rp⟩ := x
            simp only at HCD HCE hag hidm
            obtain ⟨a1, a2, a3⟩ := hag
            have HCS : Hid (∀ w' : World, w'.ownsRow w.heap.size 31 6 (.slice (some ⟨gd, 0, none⟩) n cd) n (flatA (qs.map fun q => q.1)) → w'.cell? ⟨gd, KK * 6 + 1, none⟩ = some (.int .i64 y1) ∧ w'.cell? ⟨gd, KK * 6 + 2, none⟩ = some (.int .i64 y2) ∧ w'.cell? ⟨gd, KK * 6 + 3, none⟩ = some (.int .i64 y3) ∧ w'.cell? ⟨gd, KK * 6 + 4, none⟩ = some (.int .i64 y4) ∧ w'.cell? ⟨gd, KK * 6 + 5, none⟩ = some (.int .i64 y5)) := fun W hW =>
              ⟨HCD.out W hW 1 _ rfl, HCD.out W hW 2 _ rfl, HCD.out W hW 3 _ rfl, HCD.out W hW 4 _ rfl, HCD.out W hW 5 _ rfl⟩
            have KF := Lib.hid (has_free y1 H5.out)
            rw [show freeE m y1 = 0 by unfold freeE; rw [if_pos hidm]] at KF
            have KR := Lib.hid (fun W g (h : Has w p 256 g (wo m y1) W) => has_reserve y1 y2 y3 y4 y5 h)
            rw [a1] at KR
            have HP2 := Lib.hid a2
            have HL2 := Lib.hid (a3.trans HML.out)
            clear a1 a2 a3 hidm HCD
            generalize resP 256 (wo m y1) y1 y2 y3 y4 y5 = rp2 at KR HP2
            generalize resM 256 (wo m y1) y1 y2 y3 y4 y5 = m3 at KR HL2
            have hgd : gd < wr.heap.size := (own_type HD5.out (k := gd) rfl).2.1
            go_upto_region 26 with fail
            rw [HKK.out]
            obtain ⟨x1, -, -, -, -⟩ := HCS.out _ HD5.out
            have i1 : (0 : Int) ≤ (KK : Int) := by omega
            go_wp2_with (fail)
            with_reducible refine KF.out.mono ?_
            rintro e w6 ⟨rfl, g6, h6, ht6, _⟩
            have H6 := Lib.hid h6
            have HD6 := Lib.hid (own_turns HD5.out ht6 (fun k hk => H5.out.apart HD5.out (by decide) (by decide) k hk))
            have HE6 := Lib.hid (own_turns HE5.out ht6 (fun k hk => H5.out.apart HE5.out (by decide) (by decide) k hk))
            have hgd6 : gd < w6.heap.size := Nat.lt_of_lt_of_le hgd ht6.size
            clear h6 ht6 x1 hgd
            obtain ⟨x1, x2, x3, x4, x5⟩ := HCS.out _ HD6.out
            have HK7 : Hid (∀ W, Turns (fun k => k = p ∨ g6 = some k) (w6.drewN 1) W → W.cell? ⟨gd, KK * 6 + 1, none⟩ = some (.int .i64 y1) ∧ W.cell? ⟨gd, KK * 6 + 2, none⟩ = some (.int .i64 y2) ∧ W.cell? ⟨gd, KK * 6 + 3, none⟩ = some (.int .i64 y3) ∧ W.cell? ⟨gd, KK * 6 + 4, none⟩ = some (.int .i64 y4) ∧ W.cell? ⟨gd, KK * 6 + 5, none⟩ = some (.int .i64 y5)) := fun W ht =>
              HCS.out W (own_turns (own_below HD6.out (below_drewN (RowKit.Below.refl _ _) 1)) ht (fun k hk => H6.out.apart HD6.out (by decide) (by decide) k hk))
            have KR6 := Lib.hid (fun q => KR.out (w6.drewN q) g6 (H6.out.drewN q))
            go_upto_region 27 with fail
            go_region_held3 (fun w' => w'.cell? ⟨gd, KK * 6 + 1, none⟩ = some (.int .i64 y1) ∧ w'.cell? ⟨gd, KK * 6 + 2, none⟩ = some (.int .i64 y2) ∧ w'.cell? ⟨gd, KK * 6 + 3, none⟩ = some (.int .i64 y3) ∧ w'.cell? ⟨gd, KK * 6 + 4, none⟩ = some (.int .i64 y4) ∧ w'.cell? ⟨gd, KK * 6 + 5, none⟩ = some (.int .i64 y5)) (first | go_keep | (with_reducible exact HK7.out _ ht7))
              ((go_at_call 12; refine (KR6.out 1).mono ?_; rintro e w7 ⟨rfl, g7, h7, ht7, _⟩))
            have H7 := Lib.hid h7
            have HE7 := Lib.hid (own_turns (own_below HE6.out (below_drewN (RowKit.Below.refl _ _) 1)) ht7 (fun k hk => H6.out.apart HE6.out (by decide) (by decide) k hk))
            have hge : ge < w7.heap.size := (own_type HE7.out (k := ge) rfl).2.1
            clear h7 ht7 x1 x2 x3 x4 x5
            have v0 : w7.cell? ⟨ge, KK, none⟩ = some (.int .i64 rp) := HCE.out _ HE7.out
            have t8 : decide (rp ≤ rp2) = true := by have := HP2.out; simpa using this
            go_wp2_with (fail)
            with_reducible refine (KS.out _ m3 g7 HL2.out H7.out).mono ?_
            rintro e w8 ⟨A8, c8, rfl, hg8⟩
            have H8 := Lib.hid (H7.out.keep hg8.1).below
            clear hg8
            go_wp2
            go_ret
            exact ⟨rfl, H8.out⟩
end Go.Proofs.Ytojnkkkgkmgagaa.Latest
