/- What is due at a place is taken, in a row of its own. -/
import Derived.Test.YtlodfipiodlgdaaSo
import Derived.Lib.SliceRun
namespace Go.Proofs.Ytlodfipiodlgdaa
open Go.RowKit

theorem wpList_append_keys {X : World} {ops : Array Oper} {rest : List Oper} {o : Oper} {a : Act} {Q : Exit → Act → World → Prop} (hgd : o.guard = none) (s x : Operand)
    (hop : o.op = .call { callee := .builtin .append, args := #[s, x], argTypes := #[52, 52] })
    (W0 : World) (A0 : Option Addr) (n m c c0 N : Nat) (xs l : List Ky) (sa : Option Addr) (hs : a.eval s = .slice A0 n c0) (hx : a.eval x = .slice sa m c)
    (hG : GrowsQ W0 A0 n c0 xs X) (hm : l.length = m) (hr : Keys X sa c l) (hN : n + m = N) (hb : N ≤ 2000)
    (h : ∀ A cap w', PostQ W0 X A0 A N cap (xs ++ l) w' → wpList Try.prog ops Q rest (a.put o.dst (.slice A N cap)) w') : wpList Try.prog ops Q (o :: rest) a X := by
  subst hN
  obtain ⟨A, cap, w', hrun, hl⟩ := post_append o.type (c := c) hG hm hr hb
  exact Lib.wpList_append_run X hgd s x 52 52 hop _ _ hs hx _ _ hrun (h A cap w' hl)
/-- A row of entries of the call's own. -/
def Rows1 (n : Nat) (l : List Ky) (w : World) (e : Ending) (w' : World) : Prop := ∃ A c, e = .returned (.slice A n c) ∧ GrowsQ w A n c l w'

set_option maxHeartbeats 1000000 in
theorem clone_some {l : List Ky} {n b off c : Nat} {w : World} (hk : Keys w (some ⟨b, off, none⟩) c l) (hn : l.length = n) (hl : n ≤ 1024) : Calls Try.prog 33 #[.slice (some ⟨b, off, none⟩) n c] w (Rows1 n l w) := by
  have HK := Lib.hid (hk.below (Nat.le_refl _) (below_new w (.cells #[] 60)))
  have HG := Lib.hid (grows_n0 w)
  have HN := Lib.hid hn
  have q28 : (binOp .eql 52 (.slice (some ⟨b, off, none⟩) n c) (.slice none 0 0)).run Try.prog w = .ok (.bool false) w := Lib.run_eql_slice_nil w 52 60 (some ⟨b, off, none⟩) n c 0 0 Try.underlying52
  clear hk hn
  go_enter Try.func33, Try.ntmps33
  go_wp2_with (
    at_builtin
    refine wpList_append_keys rfl (.tmp 5) (.tmp 6) rfl w (some ⟨w.heap.size, 0, none⟩) 0 n c 0 n [] l (some ⟨b, off, none⟩) rfl rfl HG.out HN.out HK.out (by omega) (by omega) ?_
    intro A2 c2 w2 hp2
    have HP := Lib.hid hp2.grows
    clear hp2)
  go_ret
  exact ⟨A2, c2, rfl, HP.out⟩
set_option maxHeartbeats 1000000 in
theorem clone_none {c : Nat} {w : World} : Calls Try.prog 33 #[.slice none 0 c] w (Rows1 0 [] w) := by
  have q28 : (binOp .eql 52 (.slice none 0 c) (.slice none 0 0)).run Try.prog w = .ok (.bool true) w := Lib.run_eql_slice_nil w 52 60 none 0 c 0 0 Try.underlying52
  have HG : Hid (GrowsQ w none 0 0 [] w) := ⟨Below.refl _ _, World.ownsRow_nil _ _ _ _⟩
  go_enter Try.func33, Try.ntmps33
  go_wp2
  go_ret
  exact ⟨none, 0, rfl, HG.out⟩
theorem clone {l : List Ky} {a : Option Addr} {n c : Nat} {w : World} (ha : a = none ∨ ∃ g, a = some ⟨g, 0, none⟩) (hk : Keys w a c l) (hn : l.length = n) (hl : n ≤ 1024) : Calls Try.prog 33 #[.slice a n c] w (Rows1 n l w) := by
  rcases ha with rfl | ⟨g, rfl⟩
  · have : l = [] := by
      by_cases h : 0 < l.length
      · obtain ⟨b, off, h', _⟩ := hk.form h
        cases h'
      · exact List.eq_nil_of_length_eq_zero (by omega)
    subst this
    have : n = 0 := hn.symm
    subst this
    exact clone_none
  · exact clone_some hk hn hl
theorem own_addr {w : World} {B n : Nat} {v : Value} {cs : List Value} (h : w.ownsRow B 60 2 v n cs) : ∃ a c, v = .slice a n c ∧ n ≤ c ∧ (a = none ∨ ∃ g, a = some ⟨g, 0, none⟩) := by
  rcases h.2 with ⟨rfl, rfl⟩ | ⟨g, cap, cur, rfl, hb, hg, hnc, _⟩
  · exact ⟨none, 0, rfl, Nat.le_refl _, .inl rfl⟩
  · exact ⟨_, cap, rfl, hnc, .inr ⟨g, rfl⟩⟩
/-- The due ones of a place in a row of their own; the wheel has all others. -/
def Takes (S : Nat → Prop) (B p room : Nat) (now : Int) (m : List Ky) (j : Nat) (t : Int) (w : World) (e : Ending) (w' : World) : Prop :=
  ∃ A c, e = .returned (.slice A (dueAt m j t).length c) ∧ Keys w' A c (dueAt m j t) ∧ Whl S B w' p room now (butAt m j t) ∧ Turns S w w'
def TakeRel (l : List Ky) (t : Int) (n : Value) : Prop := ∃ k : Nat, k ≤ l.length ∧ n = .int .i64 (k : Int) ∧ ∀ i x, i < k → l[i]? = some x → x.1 ≤ t
/-- The rest of take, behind its loop. -/
theorem take_fin {S : Nat → Prop} {B p room : Nat} {now : Int} {w w1 w2 : World} {m : List Ky} {V : Nat → Value} {j : Nat} {t : Int} {l : List Ky} {k c1 : Nat} {A : Option Addr} {v : Value}
    (h : Whl S B w p room now m) (hV : Body S B w p room now m V) (hj : j < 64) (hl : plc m j = l) (hdue : due l t = l.take k) (hstay : stay l t = l.drop k) (hkl : k ≤ l.length) (hg : GrowsQ w A k c1 (l.take k) w1)
    (ht : Turns (fun q => (V j).ownBlock = some q) w1.drew w2) (ho : w2.ownsRow B 60 2 v (l.length - k) ((flatQ l).take (0 * 2) ++ (flatQ l).drop (k * 2))) (hvb : v.ownBlock = (V j).ownBlock) :
    Takes S B p room now m j t w (.returned (.slice A k c1)) (w2.setCell ⟨p, 2 + j, none⟩ v) := by
  have hd : dueAt m j t = l.take k := by rw [dueAt_eq, hl, hdue]
  have hs : plc (butAt m j t) j = l.drop k := by rw [butAt_plc, hl, hstay]
  have hb : Below w.heap.size w w1.drew := below_drewN hg.1 1
  have ho' : w2.ownsRow B 60 2 v (plc (butAt m j t) j).length (flatQ (plc (butAt m j t) j)) := by
    rw [hs, flatQ_drop, List.length_drop]
    simpa using ho
  obtain ⟨k1, k2⟩ := h.updS (m' := butAt m j t) hV hj hb ht ho' (fun q hq => .inl (hvb ▸ hq)) (fun i hi hne => butAt_other hne t) (Nat.le_trans (butAt_sub m j t).length_le h.len) (h.good.sub (butAt_sub m j t)) (fun d hd => h.times d ((butAt_sub m j t).subset hd))
  have hsub : ∀ q, S q ∨ v.ownBlock = some q → S q := fun q hq => by
    rcases hq with hq | hq
    · exact hq
    · exact (hV.inn j q hj (hvb ▸ hq)).1
  have s1 : w.heap.size ≤ w1.heap.size := hg.1.size
  have s2 : w1.heap.size ≤ w2.heap.size := ht.size
  refine ⟨A, c1, by rw [hd, List.length_take, Nat.min_eq_left hkl], ?_, k1.wider hsub (fun q hq => ⟨(h.inS q hq).1, by have := (h.inS q hq).2; simp [World.setCell]; omega⟩), k2⟩
  rw [hd]
  have hk := hg.keys
  refine ⟨hk.le, fun h0 => ?_⟩
  obtain ⟨b, off, ha, hlt, hc⟩ := hk.form h0
  have hbw : w.heap.size ≤ b := hg.fresh ⟨b, off, none⟩ ha
  have hbS : ¬ S b := fun hq => by have := (h.inS b hq).2; omega
  refine ⟨b, off, ha, by simp [World.setCell]; omega, fun i x hi q u hq => ?_⟩
  have hnp : b ≠ p := fun e => hbS (e ▸ h.sp)
  have hnv : ¬ (V j).ownBlock = some b := fun e => hbS (hV.inn j b hj e).1
  rw [World.cell?_setCell_far w2 ⟨p, 2 + j, none⟩ ⟨b, off + i * 2 + q, none⟩ _ (fun e => hnp e.symm)]
  have : w2.cell? ⟨b, off + i * 2 + q, none⟩ = w1.cell? ⟨b, off + i * 2 + q, none⟩ := by
    have hh := ht.block b hlt hnv
    simp only [World.cell?, hh]
    rfl
  rw [this]
  exact hc i x hi q u hq

section
variable {S : Nat → Prop} {B p room : Nat} {now : Int} {w : World} {m : List Ky}
set_option maxRecDepth 100000 in
set_option maxHeartbeats 2000000 in
theorem takeAt (j : Nat) (t : Int) (hj : j < 64) (h : Whl S B w p room now m) : Calls Try.prog 27 #[.pointer (some ⟨p, 0, none⟩), .int .i64 (j : Int), .int .i64 t] w (Takes S B p room now m j t w) := by
  obtain ⟨V, hV⟩ := h.body
  obtain ⟨a, c, hvj, hc, ha⟩ := own_addr (hV.own j hj)
  have hkeys : Keys w a c (plc m j) := by
    obtain ⟨a', c', e, h1, h2⟩ := hV.row hj
    rw [hvj] at e
    cases e
    exact h2
  have hpl := plc_len m j
  have hml := h.len
  have hr2 := h.r2
  have HSR := Lib.hid (plc_good h.good j).srt
  have HH := Lib.hid h
  have HV := Lib.hid hV
  have HA := Lib.hid ha
  have c0 : w.cell? ⟨p, 2 + j, none⟩ = some (V j) := hV.place hj
  rw [hvj] at c0
  have hpw := h.lt
  have HVJ := Lib.hid hvj
  clear h hV hvj ha
  generalize hp : plc m j = l at hkeys hpl hc HSR c0 HVJ
  have HP := Lib.hid hp
  have HK := Lib.hid hkeys
  clear hp hkeys
  have i1 : (0 : Int) ≤ (j : Int) := by omega
  have i2 : (j : Int) < 64 := by omega
  go_enter Try.func27, Try.ntmps27
  go_wp2
  go_loop [8] (fun n => TakeRel l t n) (fun n => l.length - (intOf n).toNat)
  case atStart => exact ⟨0, by omega, rfl, fun i _ hi => by omega⟩
  case round =>
    obtain ⟨k, hk, rfl, hall⟩ := hrel
    have HAL := Lib.hid hall
    clear hall
    have fin : Hid (∀ w1 w2 A c1 v, due l t = l.take k → stay l t = l.drop k → GrowsQ w A k c1 (l.take k) w1 → Turns (fun q => (V j).ownBlock = some q) w1.drew w2 → w2.ownsRow B 60 2 v (l.length - k) ((flatQ l).take (0 * 2) ++ (flatQ l).drop (k * 2)) → v.ownBlock = (V j).ownBlock → Takes S B p room now m j t w (.returned (.slice A k c1)) (w2.setCell ⟨p, 2 + j, none⟩ v)) :=
      fun w1 w2 A c1 v h1 h2 h3 h4 h5 h6 => take_fin HH.out HV.out hj HP.out h1 h2 hk h3 h4 h5 h6
    have KC := Lib.hid (clone (w := w) (n := k) HA.out (HK.out.take k) (by rw [List.length_take]; omega) (by omega))
    by_cases hgo : k < l.length ∧ ∀ x, l[k]? = some x → x.1 ≤ t
    · obtain ⟨hlt, hx1⟩ := hgo
      have hx : l[k]? = some l[k] := List.getElem?_eq_getElem hlt
      have hle := hx1 _ hx
      obtain ⟨b, off, rfl, hb, x0, -⟩ := HK.out.cells hx
      have HAL2 : Hid (∀ i x, i < k + 1 → l[i]? = some x → x.1 ≤ t) := fun i x hi hix => by
        by_cases e : i = k
        · subst e; exact hx1 x hix
        · exact HAL.out i x (by omega) hix
      clear hx hx1 fin KC
      generalize l[k] = x at x0 hle
      obtain ⟨y0, y1⟩ := x
      simp only at x0 hle
      have t1 : decide ((k : Int) < (l.length : Int)) = true := by simp; omega
      have t2 : decide (y0 ≤ t) = true := by simpa using hle
      go_wp2
      go_round
      case rel => exact ⟨k + 1, by omega, by go_num, HAL2.out⟩
      case measure => simp [intOf]; omega
    · have hcut : due l t = l.take k ∧ stay l t = l.drop k := cut_due HSR.out hk HAL.out (fun x hx => by
        have hlt := (List.getElem?_eq_some_iff.1 hx).1
        have : ¬ x.1 ≤ t := fun hle => hgo ⟨hlt, fun y hy => by rw [hx] at hy; cases hy; exact hle⟩
        omega)
      have HCU := Lib.hid hcut
      clear hcut
      have KD : Hid (∀ w1 A c1, GrowsQ w A k c1 (l.take k) w1 → Calls Try.prog 26 #[.slice a l.length c, .int .i64 0, .int .i64 (k : Int)] w1.drew (Deletes B (V j).ownBlock (l.length - k) ((flatQ l).take (0 * 2) ++ (flatQ l).drop (k * 2)) w1.drew)) := fun w1 A c1 hg => by
        have hb : Below w.heap.size w w1.drew := below_drewN hg.1 1
        have hV1 := HV.out.same (w' := w1.drew) HH.out.sp (fun q hq => hb.block q (HH.out.inS q hq).2)
        have ho := hV1.own j hj
        rw [HP.out] at ho
        have hd := delete (B := B) (i := 0) (j := k) (by omega) hk ho (one_flatQ _)
        rw [Nat.zero_add] at hd
        rw [HVJ.out] at hd ⊢
        exact hd
      have KV : Hid (∀ w1 A c1, GrowsQ w A k c1 (l.take k) w1 → ∀ w2, Turns (fun q => (V j).ownBlock = some q) w1.drew w2 → ∃ u, w2.cell? ⟨p, 2 + j, none⟩ = some u ∧ w2.frozen? ⟨p, 2 + j, none⟩ = false) := fun w1 A c1 hg w2 ht => by
        have hb : Below w.heap.size w w1.drew := below_drewN hg.1 1
        have hV1 := HV.out.same (w' := w1.drew) HH.out.sp (fun q hq => hb.block q (HH.out.inS q hq).2)
        exact hV1.after ht (fun e => (HV.out.inn j p hj e).2 rfl) hj
      by_cases hlt : k < l.length
      · have hx : l[k]? = some l[k] := List.getElem?_eq_getElem hlt
        have hgt : ¬ (l[k]).1 ≤ t := fun hle => hgo ⟨hlt, fun y hy => by rw [hx] at hy; cases hy; exact hle⟩
        obtain ⟨b, off, rfl, hb, x0, -⟩ := HK.out.cells hx
        clear hx hgo
        generalize l[k] = x at x0 hgt
        obtain ⟨y0, y1⟩ := x
        simp only at x0 hgt
        have t1 : decide ((k : Int) < (l.length : Int)) = true := by simp; omega
        have t2 : decide (y0 ≤ t) = false := by simpa using hgt
        clear hgt
        go_wp2_with (fail)
        with_reducible refine KC.out.mono ?_
        rintro e w1 ⟨A, c1, rfl, hg⟩
        have HG := Lib.hid hg
        clear hg
        have hp1 : p < w1.heap.size := Nat.lt_of_lt_of_le hpw HG.out.1.size
        go_wp2_with (fail)
        go_region_law (go_simp; go_at_call 26; (refine (KD.out w1 A c1 HG.out).mono ?_); rintro e w2 ⟨v', rfl, hvb, hown, ht⟩; obtain ⟨u, f1, f0⟩ := KV.out w1 A c1 HG.out w2 ht; obtain ⟨a', c', rfl, hle, hat⟩ := own_form hown; clear hle hat; have HT := Lib.hid ht; have HOW := Lib.hid hown; have HVB := Lib.hid hvb; clear hvb hown ht)
        go_wp2
        go_ret
        exact fin.out _ _ _ _ _ HCU.out.1 HCU.out.2 HG.out HT.out HOW.out HVB.out
      · have t1 : decide ((k : Int) < (l.length : Int)) = false := by simp; omega
        have t1' : decide (k < l.length) = false := by simp; omega
        clear hgo
        go_wp2_with (fail)
        with_reducible refine KC.out.mono ?_
        rintro e w1 ⟨A, c1, rfl, hg⟩
        have HG := Lib.hid hg
        clear hg
        have hp1 : p < w1.heap.size := Nat.lt_of_lt_of_le hpw HG.out.1.size
        go_wp2_with (fail)
        go_region_law (go_simp; go_at_call 26; (refine (KD.out w1 A c1 HG.out).mono ?_); rintro e w2 ⟨v', rfl, hvb, hown, ht⟩; obtain ⟨u, f1, f0⟩ := KV.out w1 A c1 HG.out w2 ht; obtain ⟨a', c', rfl, hle, hat⟩ := own_form hown; clear hle hat; have HT := Lib.hid ht; have HOW := Lib.hid hown; have HVB := Lib.hid hvb; clear hvb hown ht)
        go_wp2
        go_ret
        exact fin.out _ _ _ _ _ HCU.out.1 HCU.out.2 HG.out HT.out HOW.out HVB.out
end
end Go.Proofs.Ytlodfipiodlgdaa
