/- The walk of the statement on two texts with a line's end between. -/
import Derived.Test.YtdjpijmihlpbjaaBa
import Derived.Test.YtdjpijmihlpbjaaSu
namespace Go.Proofs.Ytdjpijmihlpbjaa
open Go.RowKit

theorem Toks.take {w : World} {A : Option Addr} {ts : List Tok} (h : Toks w A ts) (n : Nat) : Toks w A (ts.take n) := by
  intro h0
  obtain ⟨b, off, ha, hlt, hc⟩ := h (by simp at h0; omega)
  refine ⟨b, off, ha, hlt, fun i t hi j v hj => hc i t ?_ j v hj⟩
  rw [List.getElem?_take] at hi
  split at hi
  · exact hi
  · cases hi
/-- A row of bytes of the call's own, behind W. -/
def JoinRel (W : World) (n : Nat) (zs : List UInt8) (A : Option Addr) (c : Nat) (W' : World) : Prop :=
  W'.ownsRow W.heap.size 5 1 (.slice A n c) n (bytesV zs) ∧ Below W.heap.size W W'
section
variable {W W1 W2 : World} {n m c c' : Nat} {xs zs : List UInt8} {A A' : Option Addr}
theorem JoinRel.longer (h : JoinRel W n xs A c W1) (hl : LongerB W.heap.size W1 (.slice A n c) m zs A' c' W2) : JoinRel W m zs A' c' W2 := ⟨hl.1, hl.below h.2 h.2.size (fun _ hk => (own_lt h.1 hk).1)⟩
theorem JoinRel.alloc (h : JoinRel W n xs A c W1) (o : Obj) : JoinRel W n xs A c (W1.alloc o) := ⟨World.ownsRow.alloc h.1 o, h.2.alloc h.2.size o⟩
theorem JoinRel.nil (W : World) : JoinRel W 0 [] (some ⟨W.heap.size, 0, none⟩) 0 (W.alloc (.cells #[] 5)) := ⟨own_empty W (Nat.le_refl _), (Below.refl _ _).alloc (Nat.le_refl _) _⟩
end
/-- Some rounds were made, each with a new variable. -/
def RoundsRel (V : World) (n : Nat) (i : Value) (W : World) : Prop := ∃ k : Nat, k ≤ n ∧ i = .int .i64 (k : Int) ∧ Below V.heap.size V W

set_option maxRecDepth 100000 in
set_option maxHeartbeats 8000000 in
theorem coreJoin (l r : List UInt8) (a b : Option Addr) (cap dap : Nat) {w : World} (hm : l.length ≤ maxLen) (hm' : r.length ≤ maxLen) (ha : Bytes w a cap l) (hb : Bytes w b dap r) : Calls Try.prog 8 #[.slice a l.length cap, .slice b r.length dap] w (Woke w) := by
  unfold maxLen at hm hm'
  have HA := Lib.hid ha
  have HB := Lib.hid hb
  clear ha hb
  by_cases h5 : 2000 < l.length
  · have t1 : decide ((2000 : Int) < (l.length : Int)) = true := by simp; omega
    go_enter Try.func8, Try.ntmps8
    go_wp2_with (fail)
    refine (awake _).mono ?_
    rintro e w1 ⟨rfl, hb1⟩
    have H1 := Lib.hid hb1
    clear hb1
    go_wp2_with (fail)
    refine (awake _).mono ?_
    rintro e w2 ⟨rfl, hb2⟩
    have H2 := Lib.hid (H1.out.trans (hb2.mono H1.out.size))
    clear hb2
    go_wp2
    go_ret
    exact ⟨rfl, H2.out⟩
  · have t1 : decide ((2000 : Int) < (l.length : Int)) = false := by simp; omega
    by_cases h6 : 2000 < r.length
    · have t2 : decide ((2000 : Int) < (r.length : Int)) = true := by simp; omega
      go_enter Try.func8, Try.ntmps8
      go_wp2_with (fail)
      refine (awake _).mono ?_
      rintro e w1 ⟨rfl, hb1⟩
      have H1 := Lib.hid hb1
      clear hb1
      go_wp2_with (fail)
      refine (awake _).mono ?_
      rintro e w2 ⟨rfl, hb2⟩
      have H2 := Lib.hid (H1.out.trans (hb2.mono H1.out.size))
      clear hb2
      go_wp2
      go_ret
      exact ⟨rfl, H2.out⟩
    · have t2 : decide ((2000 : Int) < (r.length : Int)) = false := by simp; omega
      have hlen := ans_len l
      have hlen' := ans_len r
      obtain ⟨e0, n1, n2, hs⟩ : ∃ e n1 n2, (lex l).2 = (e, n1, n2) := ⟨_, _, _, rfl⟩
      obtain ⟨f0, m1, m2, hs'⟩ : ∃ e n1 n2, (lex r).2 = (e, n1, n2) := ⟨_, _, _, rfl⟩
      obtain ⟨g0, k1, k2, hs''⟩ : ∃ e n1 n2, (lex (l ++ [10] ++ r)).2 = (e, n1, n2) := ⟨_, _, _, rfl⟩
      have HE := Lib.hid hs
      have HF := Lib.hid hs'
      have HG := Lib.hid hs''
      clear hs hs' hs''
      go_enter Try.func8, Try.ntmps8
      go_wp2_with (fail)
      refine (awake _).mono ?_
      rintro e w1 ⟨rfl, hb1⟩
      have H1 := Lib.hid hb1
      clear hb1
      have K1 := Lib.hid (tokens l a cap (by omega) (HA.out.below (Nat.le_refl _) H1.out))
      go_wp2_with (fail)
      with_reducible refine K1.out.mono ?_
      rintro e w2 ⟨X, cx, rfl, hncx, htx, _, hb2⟩
      rw [HE.out]
      simp only [spotV]
      obtain ⟨V2, hV2⟩ : ∃ V, V = w2.alloc (.cells #[.int .i64 (e0 : Int), .int .i64 (n1 : Int), .int .i64 (n2 : Int)] 27) := ⟨_, rfl⟩
      have HB2 : Hid (Below w.heap.size w V2) := by rw [hV2]; exact (H1.out.trans (hb2.mono H1.out.size)).alloc (Nat.le_trans H1.out.size hb2.size) _
      have HT2 : Hid (Toks V2 X (ans l)) := by rw [hV2]; exact htx.below (Nat.le_refl _) ((Below.refl _ _).alloc (Nat.le_refl _) _)
      have HS2 : Hid (Lies V2 w2.heap.size 27 #[.int .i64 (e0 : Int), .int .i64 (n1 : Int), .int .i64 (n2 : Int)]) := by rw [hV2]; exact Lies.made _ _ _
      have K2 := Lib.hid (tokens r b dap (by omega) (HB.out.below (Nat.le_refl _) HB2.out))
      rw [hV2] at K2
      clear htx hb2
      go_wp2_with (fail)
      refine K2.out.mono ?_
      rw [← hV2]
      rintro e w3 ⟨Y, cy, rfl, hncy, hty, _, hb3⟩
      rw [HF.out]
      simp only [spotV]
      clear hV2
      obtain ⟨V3, hV3⟩ : ∃ V, V = w3.alloc (.cells #[.int .i64 (f0 : Int), .int .i64 (m1 : Int), .int .i64 (m2 : Int)] 27) := ⟨_, rfl⟩
      have h23 : Below V2.heap.size V2 V3 := by rw [hV3]; exact hb3.alloc hb3.size _
      have H23 := Lib.hid h23
      have HB3 := Lib.hid (HB2.out.trans (h23.mono HB2.out.size))
      have HT3 : Hid (Toks V3 Y (ans r)) := by rw [hV3]; exact hty.below (Nat.le_refl _) ((Below.refl _ _).alloc (Nat.le_refl _) _)
      have HS3 : Hid (Lies V3 w3.heap.size 27 #[.int .i64 (f0 : Int), .int .i64 (m1 : Int), .int .i64 (m2 : Int)]) := by rw [hV3]; exact Lies.made _ _ _
      have h3s : V3.heap.size = w3.heap.size + 1 := by rw [hV3]; simp
      have hw3 : w.heap.size ≤ V3.heap.size := HB3.out.size
      have HP0 := Lib.hid (JoinRel.nil V3)
      rw [h3s] at HP0
      have HBa : Hid (Bytes (V3.alloc (.cells #[] 5)) a cap l) := HA.out.below (Nat.le_refl _) (HB3.out.alloc hw3 _)
      have HBB : Hid (∀ W, Below V3.heap.size V3 W → Bytes W b dap r) := fun W hW => HB.out.below (Nat.le_refl _) (HB3.out.trans (hW.mono hw3))
      clear hty hb3 h23
      have HV3 := Lib.hid hV3
      rw [hV3] at HBa
      clear hV3
      go_wp2_with (at_builtin; first
        | (refine wpList_append_bytes rfl _ _ rfl V3.heap.size (l.length + 1) r.length dap (l.length + 1 + r.length) (.slice A2 (l.length + 1) c2) (l ++ [10]) r b (by rfl) (by rfl) P2.out.1 rfl (HBB.out _ P2.out.2) rfl (by omega) P2.out.2.size ?_
           intro A3 c3 w6 hl3
           have P3 := Lib.hid (P2.out.longer hl3)
           clear hl3)
        | (refine wpList_append_bytes rfl _ _ rfl V3.heap.size l.length 1 1 (l.length + 1) (.slice A1 l.length c1) l [10] (some ⟨w4.heap.size, 0, none⟩) (by rfl) (by rfl) (P1.out.alloc _).1 rfl (bytes_one w4 10 rfl) rfl (by omega) (P1.out.alloc _).2.size ?_
           intro A2 c2 w5 hl2
           have P2 := Lib.hid ((P1.out.alloc _).longer hl2)
           clear hl2)
        | (refine wpList_append_bytes rfl _ _ rfl V3.heap.size 0 l.length cap l.length (.slice (some ⟨w3.heap.size + 1, 0, none⟩) 0 0) [] l a (by rfl) (by rfl) (by rw [← HV3.out]; exact HP0.out.1) rfl HBa.out (by omega) (by omega) (by rw [← HV3.out]; exact HP0.out.2.size) ?_
           intro A1 c1 w4 hl1
           rw [← HV3.out] at hl1
           have P1 : Hid (JoinRel V3 l.length l A1 c1 w4) := HP0.out.longer hl1
           clear hl1))
      obtain ⟨hln, hbz⟩ := Bytes.own P3.out.1
      have K3 := Lib.hid (tokens (l ++ [10] ++ r) A3 c3 (by omega) hbz)
      rw [← hln] at K3
      with_reducible refine K3.out.mono ?_
      rintro e w7 ⟨Z, cz, rfl, hncz, htz, _, hb7⟩
      rw [HG.out]
      simp only [spotV]
      have H37 := Lib.hid ((P3.out.2.trans (hb7.mono P3.out.2.size)).alloc (Nat.le_trans P3.out.2.size hb7.size) (.cells #[.int .i64 (g0 : Int), .int .i64 (k1 : Int), .int .i64 (k2 : Int)] 27))
      have H27 := Lib.hid (H23.out.trans (H37.out.mono H23.out.size))
      have HW7 := Lib.hid (HB3.out.trans (H37.out.mono HB3.out.size))
      have HX := Lib.hid (HT2.out.below (Nat.le_refl _) H27.out)
      have HY := Lib.hid (HT3.out.below (Nat.le_refl _) H37.out)
      have HZ := Lib.hid (htz.below (Nat.le_refl _) ((Below.refl _ _).alloc (Nat.le_refl _) (.cells #[.int .i64 (g0 : Int), .int .i64 (k1 : Int), .int .i64 (k2 : Int)] 27)))
      have S1 := Lib.hid (HS2.out.below H27.out HS2.out.lt)
      have S2 := Lib.hid (HS3.out.below H37.out HS3.out.lt)
      have x0 : (w7.alloc (.cells #[.int .i64 (g0 : Int), .int .i64 (k1 : Int), .int .i64 (k2 : Int)] 27)).cell? ⟨w2.heap.size, 0, none⟩ = some (.int .i64 (e0 : Int)) := (S1.out.cell 0).trans rfl
      have x1 : (w7.alloc (.cells #[.int .i64 (g0 : Int), .int .i64 (k1 : Int), .int .i64 (k2 : Int)] 27)).cell? ⟨w2.heap.size, 1, none⟩ = some (.int .i64 (n1 : Int)) := (S1.out.cell 1).trans rfl
      have x2 : (w7.alloc (.cells #[.int .i64 (g0 : Int), .int .i64 (k1 : Int), .int .i64 (k2 : Int)] 27)).cell? ⟨w2.heap.size, 2, none⟩ = some (.int .i64 (n2 : Int)) := (S1.out.cell 2).trans rfl
      have y0 : (w7.alloc (.cells #[.int .i64 (g0 : Int), .int .i64 (k1 : Int), .int .i64 (k2 : Int)] 27)).cell? ⟨w3.heap.size, 0, none⟩ = some (.int .i64 (f0 : Int)) := (S2.out.cell 0).trans rfl
      have y1 : (w7.alloc (.cells #[.int .i64 (g0 : Int), .int .i64 (k1 : Int), .int .i64 (k2 : Int)] 27)).cell? ⟨w3.heap.size, 1, none⟩ = some (.int .i64 (m1 : Int)) := (S2.out.cell 1).trans rfl
      have y2 : (w7.alloc (.cells #[.int .i64 (g0 : Int), .int .i64 (k1 : Int), .int .i64 (k2 : Int)] 27)).cell? ⟨w3.heap.size, 2, none⟩ = some (.int .i64 (m2 : Int)) := (S2.out.cell 2).trans rfl
      clear htz hb7 hbz hln
      rcases join_cases l r with ⟨hj1, hj2⟩ | ⟨ts, L, C, hj1, hj2, hL, hj⟩
      · rw [HE.out, HG.out] at hj2
        rw [HE.out] at hj1
        cases hj2
        have t3 : ((e0 : Int) != 0) = true := by simp; exact hj1
        clear hj1
        go_wp2
        go_ret
        exact ⟨rfl, HW7.out⟩
      · rw [HE.out] at hj1
        have z0 : ((e0 : Int) != 0) = false := by have : e0 = 0 := congrArg Prod.fst hj1; simp [this]
        clear hj1
        rw [hj2] at HX hncx hlen
        rw [hj2]
        obtain ⟨bx, ox, rfl, _, hcx⟩ := HX.out (by simp)
        have hlast : (ts ++ [(⟨4, [], 0, L, C⟩ : Tok)])[ts.length]? = some ⟨4, [], 0, L, C⟩ := by simp
        have cL := (Toks.cells hcx hlast).2.2.2.1
        have hxl : (ts ++ [(⟨4, [], 0, L, C⟩ : Tok)]).length = ts.length + 1 := by simp
        rw [hxl] at hncx hlen ⊢
        have hb1 := spot_line r
        rw [HF.out] at hb1
        have hb1' : m1 ≤ 1 + r.length := hb1
        clear hb1
        rcases hj with ⟨hf, hg⟩ | ⟨hf, hg, hz⟩
        · rw [HF.out] at hf hg
          rw [HG.out] at hg
          have hg1 : g0 = f0 := congrArg Prod.fst hg
          have hg2 : k1 = m1 + L := congrArg (fun x => x.2.1) hg
          have hg3 : k2 = m2 := congrArg (fun x => x.2.2) hg
          subst hg1 hg3
          have hk1 : (m1 : Int) + (L : Int) = (k1 : Int) := by omega
          have hf' : g0 ≠ 0 := hf
          have t3 : ((g0 : Int) != 0) = true := by simp; exact hf'
          clear hf hf' hcx hlast hg hg2
          go_wp2
          go_ret
          exact ⟨rfl, HW7.out⟩
        · rw [HF.out] at hf
          have z1 : ((f0 : Int) != 0) = false := by have : f0 = 0 := congrArg Prod.fst hf; simp [this]
          rw [HG.out] at hg
          have z2 : ((g0 : Int) != 0) = false := by have : g0 = 0 := congrArg Prod.fst hg; simp [this]
          clear hf hg
          have hzl : (ans (l ++ [10] ++ r)).length = ts.length + 1 + (ans r).length := by rw [hz]; simp; omega
          rw [hz] at HZ
          rw [hzl] at hncz ⊢
          obtain ⟨YS, hYS⟩ : ∃ YS, YS = ans r := ⟨_, rfl⟩
          have HYL : Hid (∀ t ∈ YS, t.line ≤ 1 + r.length) := by rw [hYS]; exact fun t ht => ans_line ht
          rw [← hYS] at HZ HY hncy hlen' hncz ⊢
          clear hcx hlast hzl hYS HT3
          go_wp2
          obtain ⟨V7, hV7⟩ : ∃ V, V = w7.alloc (.cells #[.int .i64 (g0 : Int), .int .i64 (k1 : Int), .int .i64 (k2 : Int)] 27) := ⟨_, rfl⟩
          rw [← hV7] at HX HY HZ HW7
          rw [← hV7]
          clear x0 x1 x2 y0 y1 y2 cL S1 S2 H37 H27 hV7
          go_loopw [12] (fun i W => RoundsRel V7 YS.length i W) (fun i _ => YS.length - (intOf i).toNat)
          case atStart => exact ⟨0, by omega, rfl, Below.refl _ _⟩
          case round =>
            obtain ⟨k, hk, rfl, hbe⟩ := hrel
            have HBe := Lib.hid hbe
            obtain ⟨bz, oz, rfl, _, hcz⟩ := HZ.out.below (Nat.le_refl _) hbe (by simp; omega)
            obtain ⟨bx', ox', ex, _, hcx⟩ := HX.out.below (Nat.le_refl _) hbe (by simp)
            cases ex
            by_cases hlt : k < YS.length
            · have t4 : decide ((k : Int) < (YS.length : Int)) = true := by simp; omega
              obtain ⟨t, ht⟩ : ∃ t, YS[k]? = some t := ⟨_, List.getElem?_eq_getElem hlt⟩
              obtain ⟨b', oy, rfl, _, hcy⟩ := HY.out.below (Nat.le_refl _) hbe (by omega)
              obtain ⟨p0, p1, p2, p3, p4⟩ := Toks.cells hcy ht
              have htl := HYL.out t (List.mem_of_getElem? ht)
              have hzk : (ts ++ ⟨3, [], 0, L, C⟩ :: YS.map (shiftT L))[ts.length + 1 + k]? = some (shiftT L t) := by
                rw [List.getElem?_append_right (by omega), show ts.length + 1 + k - ts.length = k + 1 by omega, List.getElem?_cons_succ, List.getElem?_map, ht]; rfl
              have hcells := Toks.cells hcz hzk
              simp only [shiftT] at hcells
              have HCELLS := Lib.hid hcells
              clear hcells hzk hcz hcx hcy ht hbe
              generalize (⟨t.text.toArray⟩ : ByteArray) = S at p1 HCELLS
              generalize t.kind = v0 at p0 HCELLS
              generalize t.value = v2 at p2 HCELLS
              generalize t.line = v3 at p3 HCELLS htl
              generalize t.col = v4 at p4 HCELLS
              go_wp2
              obtain ⟨W', hW'⟩ : ∃ W', W' = wr.alloc (.cells #[.int .i64 (v0 : Int), .string S, .int .i64 (v2 : Int), .int .i64 ((v3 : Int) + (L : Int)), .int .i64 (v4 : Int)] 33) := ⟨_, rfl⟩
              rw [← hW']
              have HB8 : Hid (Below wr.heap.size wr W') := by rw [hW']; exact (Below.refl _ _).alloc (Nat.le_refl _) _
              have hL8 : Lies W' wr.heap.size 33 #[.int .i64 (v0 : Int), .string S, .int .i64 (v2 : Int), .int .i64 ((v3 : Int) + (L : Int)), .int .i64 (v4 : Int)] := by rw [hW']; exact Lies.made _ _ _
              obtain ⟨q0, q1, q2, q3, q4⟩ := HCELLS.out
              have hbz : bz < wr.heap.size := block_lt_of_cell q0
              have c0 : W'.cell? ⟨bz, oz + (ts.length + 1 + k) * 5, none⟩ = _ := (HB8.out.cell (p := ⟨bz, oz + (ts.length + 1 + k) * 5, none⟩) hbz).trans q0
              have c1' : W'.cell? ⟨bz, oz + (ts.length + 1 + k) * 5 + 1, none⟩ = _ := (HB8.out.cell (p := ⟨bz, oz + (ts.length + 1 + k) * 5 + 1, none⟩) hbz).trans q1
              have c2' : W'.cell? ⟨bz, oz + (ts.length + 1 + k) * 5 + 2, none⟩ = _ := (HB8.out.cell (p := ⟨bz, oz + (ts.length + 1 + k) * 5 + 2, none⟩) hbz).trans q2
              have c3' : W'.cell? ⟨bz, oz + (ts.length + 1 + k) * 5 + 3, none⟩ = _ := (HB8.out.cell (p := ⟨bz, oz + (ts.length + 1 + k) * 5 + 3, none⟩) hbz).trans q3
              have c4' : W'.cell? ⟨bz, oz + (ts.length + 1 + k) * 5 + 4, none⟩ = _ := (HB8.out.cell (p := ⟨bz, oz + (ts.length + 1 + k) * 5 + 4, none⟩) hbz).trans q4
              have d0 : W'.cell? ⟨wr.heap.size, 0, none⟩ = some (.int .i64 (v0 : Int)) := (hL8.cell 0).trans rfl
              have d1 : W'.cell? ⟨wr.heap.size, 1, none⟩ = some (.string S) := (hL8.cell 1).trans rfl
              have d2 : W'.cell? ⟨wr.heap.size, 2, none⟩ = some (.int .i64 (v2 : Int)) := (hL8.cell 2).trans rfl
              have d3 : W'.cell? ⟨wr.heap.size, 3, none⟩ = some (.int .i64 ((v3 : Int) + (L : Int))) := (hL8.cell 3).trans rfl
              have d4 : W'.cell? ⟨wr.heap.size, 4, none⟩ = some (.int .i64 (v4 : Int)) := (hL8.cell 4).trans rfl
              obtain ⟨j, hj⟩ : ∃ j, j = ts.length + 1 + k := ⟨_, rfl⟩
              rw [← hj] at c0 c1' c2' c3' c4'
              have hw : (ts.length : Int) + 1 + (k : Int) = (j : Int) := by omega
              have hjz : j < ts.length + 1 + YS.length := by omega
              clear q0 q1 q2 q3 q4 hL8 hj hW' p0 p1 p2 p3 p4
              go_quiet (fail)
              go_wp2
              go_roundw
              case rel => exact ⟨k + 1, by omega, by go_num, below_drewN (HBe.out.trans (HB8.out.mono HBe.out.size)) _⟩
              case measure => simp [intOf]; omega
            · have t4 : decide ((k : Int) < (YS.length : Int)) = false := by simp; omega
              have t4' : decide (k < YS.length) = false := by simp; omega
              have hz3 : (ts ++ ⟨3, [], 0, L, C⟩ :: YS.map (shiftT L))[ts.length]? = some ⟨3, [], 0, L, C⟩ := by simp
              have c0 := (Toks.cells hcz hz3).1
              have hTz : Toks wr (some ⟨bz, oz, none⟩) ts := by
                have := (HZ.out.below (Nat.le_refl _) hbe).take ts.length
                rwa [List.take_left'] at this
                rfl
              have hTx : Toks wr (some ⟨bx, ox, none⟩) ts := by
                have := (HX.out.below (Nat.le_refl _) hbe).take ts.length
                rwa [List.take_left'] at this
                rfl
              have KS : Hid (∀ n c d, Calls Try.prog 12 #[.slice (some ⟨bz, oz, none⟩) ts.length c, .slice (some ⟨bx, ox, none⟩) ts.length d] (wr.drewN n) (Saw (.bool true) (wr.drewN n))) := fun n c d => same ts _ _ c d (by omega) (hTz.drewN n) (hTx.drewN n)
              have q1 : ¬ (cz = 0) := by omega
              have q2 : ¬ (cx = 0) := by omega
              have q3 : ts.length ≤ cz := by omega
              have q4 : ts.length ≤ cx := by omega
              clear hTz hTx hcz hcx hbe hz3
              go_wp2
              go_quiet (exact Calls.quiet_of (KS.out _ _ _))
              go_wp2
              go_ret
              exact ⟨rfl, below_drewN (HW7.out.trans (HBe.out.mono HW7.out.size)) _⟩
end Go.Proofs.Ytdjpijmihlpbjaa
