/- A task's line. -/
import Derived.Test.YtbijgmaeechmoaaDoorRk
namespace Go.Proofs.YtbijgmaeechmoaaDoor
open Go.RowKit Lx Kx
set_option maxRecDepth 100000

def TaskLine (w0 : World) (g : Nat) (A : Option Addr) (c : Nat) (ts : List Tok) (k : Nat) (B : Int) (b : Tok) (hs : List Tok) (l : List Tk) (e : Ending) (w' : World) : Prop :=
  Bad w0 g A c ts (runT b (ts.drop k) [] hs l) e w' ∨
  (e = .returned (.bool true) ∧ ∃ k' t q, Rd w0 g A c ts k' B b (hs ++ [t]) (l ++ [q]) w' ∧ k < k' ∧ runT b (ts.drop k) [] hs l = runT b (ts.drop k') [] (hs ++ [t]) (l ++ [q]))
/-- Within the line: the reader, and the task. -/
structure Tl (w0 : World) (g p : Nat) (A : Option Addr) (c : Nat) (ts : List Tok) (x : Rest) (V : World) (k : Nat) (cs : Array Value) (W : World) : Prop where
  rs : Rs w0 g A c ts x k W
  lies : Lies W p 26 cs
  turns : Turns (fun i => i = g ∨ i = p) V W
section
variable {w0 V W W' : World} {g p : Nat} {A : Option Addr} {c : Nat} {ts : List Tok} {x : Rest} {k k' : Nat} {cs cs' : Array Value}
theorem Tl.one (h : Tl w0 g p A c ts x V k cs W) (hp : p ≠ g) (hr : Rs w0 g A c ts x k' W') (ht : Turns (fun i => i = g) W W') : Tl w0 g p A c ts x V k' cs W' :=
  ⟨hr, h.lies.turns ht hp, h.turns.trans ht (fun _ _ h => .inl h)⟩
theorem Tl.two (h : Tl w0 g p A c ts x V k cs W) (hr : Rs w0 g A c ts x k' W') (hl : Lies W' p 26 cs') (ht : Turns (fun i => i = g ∨ i = p) W W') : Tl w0 g p A c ts x V k' cs' W' :=
  ⟨hr, hl, h.turns.trans ht (fun _ _ h => h)⟩
end
/-- The cells of a task whose line has been read. -/
theorem cells_line (ts : List Tok) (k : Nat) : csF ((csF (#[.string ⟨#[]⟩, .int .i64 0, .int .i64 0, .int .i64 0, .int .i64 0, .int .i64 0, .int .i64 0, .int .i64 0, .int .i64 0, .int .i64 0, .int .i64 0].setIfInBounds 0 (.string ⟨(ts.getD (k + 1) noT).text.toArray⟩)) [1, 2, 3] ts (k + 2) 3).setIfInBounds 9 (.int .i64 (modeF (ts.getD (k + 5) noT).text : Nat))) [4, 5, 6, 7, 8, 10] ts (k + 6) 6 = boxC (taskOf ((ts.drop k).take 12)) := by
  unfold boxC cellsK taskOf
  simp only [getD_cut (ts := ts) (k := k) (show 1 < 12 by omega), getD_cut (ts := ts) (k := k) (show 2 < 12 by omega), getD_cut (ts := ts) (k := k) (show 3 < 12 by omega), getD_cut (ts := ts) (k := k) (show 4 < 12 by omega), getD_cut (ts := ts) (k := k) (show 5 < 12 by omega), getD_cut (ts := ts) (k := k) (show 6 < 12 by omega), getD_cut (ts := ts) (k := k) (show 7 < 12 by omega), getD_cut (ts := ts) (k := k) (show 8 < 12 by omega), getD_cut (ts := ts) (k := k) (show 9 < 12 by omega), getD_cut (ts := ts) (k := k) (show 10 < 12 by omega), getD_cut (ts := ts) (k := k) (show 11 < 12 by omega)]
  simp [csF]

set_option maxRecDepth 100000 in
set_option maxHeartbeats 16000000 in
theorem taskLine {w0 w : World} {g : Nat} {A : Option Addr} {c : Nat} {ts : List Tok} {k : Nat} {B : Int} {b t : Tok} {hs : List Tok} {l : List Tk} (h : Rd w0 g A c ts k B b hs l w) (hk : ts[k]? = some t) (ht3 : t.kind ≠ 3) (ht4 : t.kind ≠ 4) (hhs : hs.length ≤ 1000000) (hll : l.length ≤ 1000000) :
    Calls Tryd.prog 43 #[.pointer (some ⟨g, 0, none⟩)] w (TaskLine w0 g A c ts k B b hs l) := by
  obtain ⟨T, F, hr, hrows⟩ := h
  have hfair := hr.ends.fair t (List.mem_of_getElem? hk)
  have hgw := hr.lies.lt
  have hge := hr.ge
  have hws := hr.below.size
  obtain ⟨w1, hw1⟩ : ∃ w1, w1 = w.alloc (.cells #[.string ⟨#[]⟩, .int .i64 0, .int .i64 0, .int .i64 0, .int .i64 0, .int .i64 0, .int .i64 0, .int .i64 0, .int .i64 0, .int .i64 0, .int .i64 0] 26) := ⟨_, rfl⟩
  have HW1 := Lib.hid hw1
  have H1 : Hid (Rs w0 g A c ts ⟨B, T, b, F⟩ k w1) := by rw [hw1]; exact hr.alloc _
  have HP1 : Hid (Lies w1 w.heap.size 26 #[.string ⟨#[]⟩, .int .i64 0, .int .i64 0, .int .i64 0, .int .i64 0, .int .i64 0, .int .i64 0, .int .i64 0, .int .i64 0, .int .i64 0, .int .i64 0]) := by rw [hw1]; exact Lies.made _ _ _
  have HB1 : Hid (Below w.heap.size w w1) := by rw [hw1]; exact below_new _ _
  have HRW := Lib.hid hrows
  have HFR := Lib.hid hfair
  have HK := Lib.hid hk
  have HK3 := Lib.hid ht3
  have HK4 := Lib.hid ht4
  have HHR := Lib.hid hr
  obtain ⟨p, hp⟩ : ∃ p, p = w.heap.size := ⟨_, rfl⟩
  have HPE := Lib.hid hp
  have hpg : p ≠ g := by omega
  have hwp : w0.heap.size ≤ p := by omega
  have HFP : Hid (F.ownBlock ≠ some p) := fun e => by have := (own_lt hrows.firsts e).2; omega
  have HTP : Hid (T.ownBlock ≠ some p) := fun e => by have := (own_lt hrows.tasks e).2; omega
  rw [← hp] at HP1
  have KN := Lib.hid (next H1.out hk)
  clear hw1 hr hrows hk ht3 ht4 hfair hgw hge hws hp
  go_enter Tryd.func43, Tryd.ntmps43
  go_wp2_with (fail)
  rw [← HW1.out, ← HPE.out]
  with_reducible refine KN.out.mono ?_
  rintro e w2 ⟨rfl, hb⟩
  have H2 := Lib.hid (H1.out.on hb)
  have HP2 := Lib.hid (HP1.out.below hb HP1.out.lt)
  have HB2 := Lib.hid (HB1.out.trans (hb.mono HB1.out.size))
  clear hb
  unfold cellsT
  obtain ⟨f, hf⟩ : ∃ f, f = w2.heap.size := ⟨_, rfl⟩
  have hfg : f ≠ g := by have := H2.out.lies.lt; omega
  have hfp : f ≠ p := by have := HP2.out.lt; omega
  go_upto_region 3 with fail
  generalize hV : w2.alloc (.cells #[.int .i64 (t.kind : Nat), .string ⟨t.text.toArray⟩, .int .i64 (t.value : Nat), .int .i64 (t.line : Nat), .int .i64 (t.col : Nat)] 61) = V
  rw [← hf]
  have H3 : Hid (Tl w0 g p A c ts ⟨B, T, b, F⟩ V k #[.string ⟨#[]⟩, .int .i64 0, .int .i64 0, .int .i64 0, .int .i64 0, .int .i64 0, .int .i64 0, .int .i64 0, .int .i64 0, .int .i64 0, .int .i64 0] V) :=
    ⟨by rw [← hV]; exact H2.out.alloc _, by rw [← hV]; exact HP2.out.alloc _, Turns.refl _ _⟩
  have HF : Hid (Lies V f 61 (cellsT t).toArray) := by rw [← hV, hf]; exact Lies.made _ _ _
  have HTV : Hid (Turns (fun i => i = g) w V) := by rw [← hV]; exact Turns.of_below (HB2.out.alloc HB2.out.size _)
  clear hV hf HP1 HP2 H1 H2 HB1 HB2 HW1 KN HHR
  have HT0 := Lib.hid (HFR.out.task)
  by_cases e0 : t.text = sTask
  · have ha : askT 0 t = true := by rw [HT0.out]; exact decide_eq_true e0
    have KW := Lib.hid (word_yes [116, 97, 115, 107] H3.out.rs HK.out e0 HK4.out)
    have HA1 := Lib.hid (AskedT.nil.snoc HK.out ha)
    clear ha e0
    go_wp2_with (fail)
    with_reducible refine KW.out.mono ?_
    rintro e w3 ⟨rfl, h3, t3⟩
    have H4 := Lib.hid (H3.out.one hpg h3 t3)
    obtain ⟨t1, hk1, _⟩ := h3.tok
    have HK1 := Lib.hid hk1
    clear h3 t3 hk1
    by_cases e1 : t1.kind = 1
    · have KN1 := Lib.hid (name_yes (v := .string ⟨#[]⟩) H4.out.rs H4.out.lies hpg hwp rfl HK1.out e1)
      have HA2 := Lib.hid (HA1.out.snoc HK1.out (by rw [askT_name]; exact decide_eq_true e1))
      clear e1
      go_wp2_with (fail)
      with_reducible refine KN1.out.mono ?_
      rintro e w4 ⟨rfl, h4, l4, t4⟩
      have H5 : Hid (Tl w0 g p A c ts ⟨B, T, b, F⟩ V (k + 2) _ w4) := H4.out.two h4 l4 t4
      have hg4 := h4.lies.lt
      have hp4 := l4.lt
      have HM := Lib.hid (show TNum w0 g p w4.heap.size A c ts (k + 2) ⟨B, T, b, F⟩ _ [1, 2, 3] V 0 (w4.alloc (.cells #[.pointer (some ⟨p, 1, none⟩), .pointer (some ⟨p, 2, none⟩), .pointer (some ⟨p, 3, none⟩)] 92)) from
        ⟨H5.out.rs.alloc _, H5.out.lies.alloc _, Lies.made _ _ _, H5.out.turns.trans (Turns.of_below (S := fun i => i = g ∨ i = p) (below_new _ _)) (fun _ _ h => h)⟩)
      have KM := Lib.hid (numbersN (cc := 3) (m := 3) (tplaced hpg (by omega) (by omega) hwp (by simp)) HM.out (by simp) rfl)
      clear h4 l4 t4
      go_wp2_with (fail)
      with_reducible refine KM.out.mono ?_
      rintro e w5 ⟨i, hi, rfl, hR, hall, hno⟩
      by_cases hi3 : i = 3
      · subst hi3
        have H6 : Hid (Tl w0 g p A c ts ⟨B, T, b, F⟩ V (k + 5) _ w5) := ⟨hR.1, hR.2.1, hR.2.2.2⟩
        have HA5 := Lib.hid (HA2.out.nums (m := 3) hall (by omega))
        obtain ⟨t5, hk5, hf5⟩ := H6.out.rs.tok
        have HK5 := Lib.hid hk5
        have HF5 := Lib.hid hf5.mode
        clear hR hall hno hi hk5 hf5
        by_cases e5 : modeF t5.text = 0
        · have KD := Lib.hid (mode_no (p := p) H6.out.rs HK5.out e5)
          have HBAD := Lib.hid (HA5.out.bad (n := b) (hs := hs) (l := l) (by omega) HK5.out (by rw [HF5.out]; simp [e5]) (by omega))
          clear e5
          rw [decide_eq_true rfl]
          go_wp2_with (fail)
          with_reducible refine KD.out.mono ?_
          rintro e w6 ⟨rfl, h6, _⟩
          have H7 := Lib.hid h6
          clear h6
          go_wp2
          go_ret
          exact .inl ⟨rfl, _, k + 5, t5, H7.out, HK5.out, HBAD.out⟩
        · have ha5 : askT 5 t5 = true := by rw [HF5.out]; simp [e5]
          have h54 : t5.kind ≠ 4 := by have := askT_kind ha5 (by omega); omega
          have KD := Lib.hid (mode_yes (v := .int .i64 0) H6.out.rs H6.out.lies hpg hwp rfl HK5.out e5 h54)
          have HA6 := Lib.hid (HA5.out.snoc HK5.out ha5)
          clear e5 ha5 h54
          rw [decide_eq_true rfl]
          go_wp2_with (fail)
          with_reducible refine KD.out.mono ?_
          rintro e w6 ⟨rfl, h6, l6, t6⟩
          have H7 : Hid (Tl w0 g p A c ts ⟨B, T, b, F⟩ V (k + 6) _ w6) := H6.out.two h6 l6 t6
          have hg6 := h6.lies.lt
          have hp6 := l6.lt
          have HM2 := Lib.hid (show TNum w0 g p w6.heap.size A c ts (k + 6) ⟨B, T, b, F⟩ _ [4, 5, 6, 7, 8, 10] V 0 (w6.alloc (.cells #[.pointer (some ⟨p, 4, none⟩), .pointer (some ⟨p, 5, none⟩), .pointer (some ⟨p, 6, none⟩), .pointer (some ⟨p, 7, none⟩), .pointer (some ⟨p, 8, none⟩), .pointer (some ⟨p, 10, none⟩)] 92)) from
            ⟨H7.out.rs.alloc _, H7.out.lies.alloc _, Lies.made _ _ _, H7.out.turns.trans (Turns.of_below (S := fun i => i = g ∨ i = p) (below_new _ _)) (fun _ _ h => h)⟩)
          have KM2 := Lib.hid (numbersN (cc := 6) (m := 6) (tplaced hpg (by omega) (by omega) hwp (by simp [size_csF])) HM2.out (by simp) rfl)
          clear h6 l6 t6
          go_wp2_with (fail)
          with_reducible refine KM2.out.mono ?_
          rintro e w7 ⟨i, hi, rfl, hR, hall, hno⟩
          by_cases hi6 : i = 6
          · subst hi6
            have HC := Lib.hid (cells_line ts k)
            rw [getD_tok HK1.out, getD_tok HK5.out] at HC
            have H8 : Hid (Tl w0 g p A c ts ⟨B, T, b, F⟩ V (k + 12) (boxC (taskOf ((ts.drop k).take 12))) w7) := ⟨hR.1, by rw [← HC.out]; exact hR.2.1, hR.2.2.2⟩
            have HA12 := Lib.hid (HA6.out.nums (m := 6) hall (by omega))
            have HG0 := Lib.hid (show ((ts.drop k).take 12).getD 0 noT = t by rw [getD_cut (by omega)]; exact getD_tok HK.out)
            obtain ⟨t12, hk12, _⟩ := H8.out.rs.tok
            have HK12 := Lib.hid hk12
            have HALT : Hid ((∃ k', Calls Tryd.prog 58 #[.pointer (some ⟨g, 0, none⟩)] w7 (Stands true w0 g A c ts ⟨B, T, b, F⟩ k' w7) ∧ k < k' ∧ runT b (ts.drop k) [] hs l = runT b (ts.drop k') [] (hs ++ [t]) (l ++ [taskOf ((ts.drop k).take 12)])) ∨
                (Calls Tryd.prog 58 #[.pointer (some ⟨g, 0, none⟩)] w7 (Stands false w0 g A c ts ⟨B, T, b, F⟩ (k + 12) w7) ∧ runT b (ts.drop k) [] hs l = .bad t12)) := by
              by_cases e3 : t12.kind = 3
              · refine .inl ⟨k + 12 + 1, line_yes H8.out.rs hk12 e3, by omega, ?_⟩
                rw [HA12.out.line hk12 e3, HG0.out]
              · have KL := line_last H8.out.rs hk12 e3
                by_cases e4 : t12.kind = 4
                · rw [decide_eq_true e4] at KL
                  refine .inl ⟨k + 12, KL, by omega, ?_⟩
                  rw [HA12.out.end4 hk12 e4, HG0.out]
                · rw [decide_eq_false e4] at KL
                  exact .inr ⟨KL, HA12.out.bad (by omega) hk12 (by rw [askT_over]; simp [e3, e4]) (by omega)⟩
            clear hR hall hno hi hk12 HC HG0 HA12 HA6 HA5 HA2 HA1 HM HM2 KM KM2 H3 H4 H5 H6 H7 KW KN1 KD HK1 HK5 HF5 HFR HT0 HK3 HK4
            generalize taskOf ((ts.drop k).take 12) = q at H8 HALT
            rw [decide_eq_true rfl]
            rcases HALT.out with ⟨k', kl, hkk, hrun⟩ | ⟨kl, hrun⟩
            · have KL := Lib.hid kl
              have HRUN := Lib.hid hrun
              clear kl hrun HALT
              go_wp2_with (fail)
              with_reducible refine KL.out.mono ?_
              rintro e W ⟨rfl, h9, t9⟩
              have H9 := Lib.hid (H8.out.one hpg h9 t9)
              have HRW9 := Lib.hid (HRW.out.turns (HTV.out.trans H9.out.turns (fun i hi h => by
                rcases h with h | h
                · exact h
                · have := HPE.out; omega)))
              have HF9 := Lib.hid (HF.out.turns H9.out.turns (fun h => by rcases h with h | h <;> omega))
              clear h9 t9 H8 HF HRW HTV HK HK12
              obtain ⟨AF, cF, eF, _, _⟩ := own_form HRW9.out.firsts
              subst eF
              obtain ⟨AT, cT, eT, _, _⟩ := own_form HRW9.out.tasks
              subst eT
              have HL9 := Lib.hid H9.out.rs.lies
              have d9 : W.cell? ⟨g, 9, none⟩ = some (.slice AF hs.length cF) := (HL9.out.cell 9).trans rfl
              have f9 := HL9.out.thawed 9
              have u0 : W.cell? ⟨f, 0, none⟩ = some (.int .i64 (t.kind : Nat)) := (HF9.out.cell 0).trans rfl
              have u1 : W.cell? ⟨f, 1, none⟩ = some (.string ⟨t.text.toArray⟩) := (HF9.out.cell 1).trans rfl
              have u2 : W.cell? ⟨f, 2, none⟩ = some (.int .i64 (t.value : Nat)) := (HF9.out.cell 2).trans rfl
              have u3 : W.cell? ⟨f, 3, none⟩ = some (.int .i64 (t.line : Nat)) := (HF9.out.cell 3).trans rfl
              have u4 : W.cell? ⟨f, 4, none⟩ = some (.int .i64 (t.col : Nat)) := (HF9.out.cell 4).trans rfl
              have hWs := H9.out.rs.below.size
              have hAl : ∀ k o, ((W.drewN k).alloc o).cell? ⟨g, 9, none⟩ = some (.slice AF hs.length cF) := fun k o => (((HL9.out.drewN k).alloc o).cell 9).trans rfl
              have hAl0 : ∀ o, (W.alloc o).cell? ⟨g, 9, none⟩ = some (.slice AF hs.length cF) := fun o => ((HL9.out.alloc o).cell 9).trans rfl
              have HRS : Hid (∀ k o, Rows w0 g (.slice AT l.length cT) (.slice AF hs.length cF) hs l ((W.drewN k).alloc o)) := fun k o => HRW9.out.turns (Turns.of_below (below_drewN (Below.refl _ _) k |>.alloc (by exact Nat.le_refl _) o))
              have HRS' : Hid (∀ k o, Rs w0 g A c ts ⟨B, .slice AT l.length cT, b, .slice AF hs.length cF⟩ k' ((W.drewN k).alloc o)) := fun k o => (H9.out.rs.drewN k).alloc o
              have HPP : Hid (∀ k o, Lies ((W.drewN k).alloc o) p 26 (boxC q)) := fun k o => (H9.out.lies.drewN k).alloc o
              go_wp2_with (fail)
              go_region_law
                (first
                  | (refine step_append_tok rfl (.tmp 49) (.tmp 51) rfl w0.heap.size hs.length 1 (hs.length + 1) W.heap.size (.slice AF hs.length cF) hs t (by rfl) (by rfl) (by exact (HRS.out _ _).firsts) (by exact Lies.made (W.drewN _) 61 _) rfl hhs (by simp; omega) ?_
                     intro A1 c1 w1 hl1
                     have L1 := lies_longerT (HRS'.out _ _).lies hl1 HRW9.out.fg
                     have D9 : w1.cell? ⟨g, 9, none⟩ = some (.slice AF hs.length cF) := (L1.cell 9).trans rfl
                     have F9 := L1.thawed 9))
              all_goals
                have HR1 := Lib.hid (Rs.firsts (HRS'.out _ _) (HRS.out _ _) hl1)
                have HP1 := Lib.hid ((lies_longerT (HPP.out _ _) hl1 HFP.out).there (a := ⟨g, 9, none⟩) hpg (.slice A1 (hs.length + 1) c1))
                clear hl1 L1 D9 F9 hAl hAl0 d9 f9 u0 u1 u2 u3 u4
                generalize w1.setCell ⟨g, 9, none⟩ (.slice A1 (hs.length + 1) c1) = W2 at HR1 HP1 ⊢
                have HL2 := Lib.hid HR1.out.1.lies
                have d3 : W2.cell? ⟨g, 3, none⟩ = some (.slice AT l.length cT) := (HL2.out.cell 3).trans rfl
                have f3 := HL2.out.thawed 3
                have v0 : W2.cell? ⟨p, 0, none⟩ = some (.string q.name) := (HP1.out.cell 0).trans rfl
                have v1 : W2.cell? ⟨p, 1, none⟩ = some (.int .i64 q.T) := (HP1.out.cell 1).trans rfl
                have v2 : W2.cell? ⟨p, 2, none⟩ = some (.int .i64 q.D) := (HP1.out.cell 2).trans rfl
                have v3 : W2.cell? ⟨p, 3, none⟩ = some (.int .i64 q.C) := (HP1.out.cell 3).trans rfl
                have v4 : W2.cell? ⟨p, 4, none⟩ = some (.int .i64 q.A) := (HP1.out.cell 4).trans rfl
                have v5 : W2.cell? ⟨p, 5, none⟩ = some (.int .i64 q.Seg) := (HP1.out.cell 5).trans rfl
                have v6 : W2.cell? ⟨p, 6, none⟩ = some (.int .i64 q.Cost) := (HP1.out.cell 6).trans rfl
                have v7 : W2.cell? ⟨p, 7, none⟩ = some (.int .i64 q.M) := (HP1.out.cell 7).trans rfl
                have v8 : W2.cell? ⟨p, 8, none⟩ = some (.int .i64 q.K) := (HP1.out.cell 8).trans rfl
                have v9 : W2.cell? ⟨p, 9, none⟩ = some (.int .i64 q.Mode) := (HP1.out.cell 9).trans rfl
                have v10 : W2.cell? ⟨p, 10, none⟩ = some (.int .i64 q.Prio) := (HP1.out.cell 10).trans rfl
                have hW2 := HR1.out.1.below.size
                have gAl : ∀ o, (W2.alloc o).cell? ⟨g, 3, none⟩ = some (.slice AT l.length cT) := fun o => ((HL2.out.alloc o).cell 3).trans rfl
                have HRT : Hid (∀ k o, Rows w0 g (.slice AT l.length cT) (.slice A1 (hs.length + 1) c1) (hs ++ [t]) l ((W2.drewN k).alloc o)) := fun k o => HR1.out.2.turns (Turns.of_below (below_drewN (Below.refl _ _) k |>.alloc (by exact Nat.le_refl _) o))
                have HRT' : Hid (∀ k o, Rs w0 g A c ts ⟨B, .slice AT l.length cT, b, .slice A1 (hs.length + 1) c1⟩ k' ((W2.drewN k).alloc o)) := fun k o => (HR1.out.1.drewN k).alloc o
                go_wp2_with (fail)
                go_region_law
                  (first
                    | (refine step_append_task rfl (.tmp 60) (.tmp 62) rfl w0.heap.size l.length 1 (l.length + 1) W2.heap.size (.slice AT l.length cT) l q (by rfl) (by rfl) (by exact (HRT.out _ _).tasks) (by exact Lies.made (W2.drewN _) 26 _) rfl hll (by simp; omega) ?_
                       intro A2 c2 w2 hl2
                       have L2 := lies_longerK (HRT'.out _ _).lies hl2 HRW9.out.tg
                       have D3 : w2.cell? ⟨g, 3, none⟩ = some (.slice AT l.length cT) := (L2.cell 3).trans rfl
                       have F3 := L2.thawed 3))
                all_goals
                  have HR2 := Lib.hid (Rs.tasks (HRT'.out _ _) (HRT.out _ _) hl2)
                  clear hl2 L2 D3 F3 gAl d3 f3 v0 v1 v2 v3 v4 v5 v6 v7 v8 v9 v10
                  generalize w2.setCell ⟨g, 3, none⟩ (.slice A2 (l.length + 1) c2) = W3 at HR2 ⊢
                  go_wp2
                  go_ret
                  exact .inr ⟨rfl, k', t, q, ⟨_, _, HR2.out.1, HR2.out.2⟩, hkk, HRUN.out⟩
            · have KL := Lib.hid kl
              have HRUN := Lib.hid hrun
              clear kl hrun HALT
              go_wp2_with (fail)
              with_reducible refine KL.out.mono ?_
              rintro e w8 ⟨rfl, h9, t9⟩
              have H9 := Lib.hid h9
              clear h9 t9
              go_wp2
              go_ret
              exact .inl ⟨rfl, _, k + 12, t12, H9.out, HK12.out, HRUN.out⟩
          · obtain ⟨tt, hkt, e2⟩ := hno (by omega)
            have HBAD := Lib.hid ((HA6.out.nums (m := i) hall (by omega)).bad (n := b) (hs := hs) (l := l) (by omega) (by rw [← Nat.add_assoc]; exact hkt) (by rw [askT_num (by omega)]; exact decide_eq_false e2) (by omega))
            have H8 := Lib.hid hR.1
            have HKT := Lib.hid hkt
            rw [decide_eq_false hi6]
            clear hR hall hno hkt e2
            go_wp2
            go_ret
            exact .inl ⟨rfl, _, _, tt, H8.out, HKT.out, HBAD.out⟩
      · obtain ⟨tt, hkt, e2⟩ := hno (by omega)
        have HBAD := Lib.hid ((HA2.out.nums (m := i) hall (by omega)).bad (n := b) (hs := hs) (l := l) (by omega) (by rw [← Nat.add_assoc]; exact hkt) (by rw [askT_num (by omega)]; exact decide_eq_false e2) (by omega))
        have H8 := Lib.hid hR.1
        have HKT := Lib.hid hkt
        rw [decide_eq_false hi3]
        clear hR hall hno hkt e2
        go_wp2
        go_ret
        exact .inl ⟨rfl, _, _, tt, H8.out, HKT.out, HBAD.out⟩
    · have KN1 := Lib.hid (name_no (p := p) H4.out.rs HK1.out e1)
      have HBAD := Lib.hid (HA1.out.bad (n := b) (hs := hs) (l := l) (by omega) HK1.out (by rw [askT_name]; exact decide_eq_false e1) (by omega))
      clear e1
      go_wp2_with (fail)
      with_reducible refine KN1.out.mono ?_
      rintro e w4 ⟨rfl, h4, _⟩
      have H5 := Lib.hid h4
      clear h4
      go_wp2
      go_ret
      exact .inl ⟨rfl, _, k + 1, t1, H5.out, HK1.out, HBAD.out⟩
  · have KW := Lib.hid (word_no [116, 97, 115, 107] H3.out.rs HK.out e0)
    have HBAD := Lib.hid (AskedT.nil.bad (n := b) (hs := hs) (l := l) (by omega) HK.out (by rw [HT0.out]; exact decide_eq_false e0) (fun _ => ⟨HK3.out, HK4.out⟩))
    clear e0
    go_wp2_with (fail)
    with_reducible refine KW.out.mono ?_
    rintro e w4 ⟨rfl, h4, _⟩
    have H5 := Lib.hid h4
    clear h4
    go_wp2
    go_ret
    exact .inl ⟨rfl, _, k, t, H5.out, HK.out, HBAD.out⟩
end Go.Proofs.YtbijgmaeechmoaaDoor
