/- The statements' own verdict. -/
import Derived.Test.YtklnokhabomnfaaVj
import Derived.Test.YtklnokhabomnfaaRr
namespace Go.Proofs.Ytklnokhabomnfaa
open Go.RowKit

def RefJudged (b g : Int) (l : List Tk) (w : World) (e : Ending) (w' : World) : Prop :=
  ∃ (ok : Bool) (late : Int) (R : List Int) (t : Nat), e = .returned (vdV ok late (some ⟨t, 0, none⟩) l.length l.length) ∧ Verd b g l ok late R ∧ Row w' t R ∧ w.heap.size ≤ t ∧ Below w.heap.size w w'
/-- What is known on the way: the set, the result's cell, the verdict, its times. -/
structure VSt (w : World) (b : Int) (a : Option Addr) (n cap : Nat) (ok : Bool) (late : Int) (R : List Int) (W : World) : Prop where
  set : SetBox w b a n cap W
  res : Lies W (w.heap.size + 1) 29 #[.bool false, .int .i64 0, .slice none 0 0]
  row : Row W (w.heap.size + 2) R
  vd : Lies W (w.heap.size + 3) 29 #[.bool ok, .int .i64 late, .slice (some ⟨w.heap.size + 2, 0, none⟩) n n]
section
variable {w : World} {b : Int} {a : Option Addr} {n cap : Nat} {ok : Bool} {late : Int} {R : List Int} {W W' : World}
theorem VSt.tells (h : VSt w b a n cap ok late R W) (hb : Below W.heap.size W W') : VSt w b a n cap ok late R W' :=
  ⟨h.set.tells hb, h.res.below hb h.res.lt, h.row.tells hb, h.vd.below hb h.vd.lt⟩
theorem VSt.put (h : VSt w b a n cap ok late R W) (i : Nat) (x : Int) : VSt w b a n cap ok late (R.set i x) (W.setCell ⟨w.heap.size + 2, i, none⟩ (.int .i64 x)) :=
  ⟨⟨h.set.below.setCell (p := ⟨w.heap.size + 2, i, none⟩) (show w.heap.size ≤ w.heap.size + 2 by omega) _, h.set.lies.there (a := ⟨w.heap.size + 2, i, none⟩) (show w.heap.size ≠ w.heap.size + 2 by omega) _⟩, h.res.there (a := ⟨w.heap.size + 2, i, none⟩) (show w.heap.size + 1 ≠ w.heap.size + 2 by omega) _, h.row.put i x, h.vd.there (a := ⟨w.heap.size + 2, i, none⟩) (show w.heap.size + 3 ≠ w.heap.size + 2 by omega) _⟩
theorem VSt.late_ (h : VSt w b a n cap ok late R W) (k : Int) : VSt w b a n cap false k R ((W.setCell ⟨w.heap.size + 3, 0, none⟩ (.bool false)).setCell ⟨w.heap.size + 3, 1, none⟩ (.int .i64 k)) :=
  ⟨⟨(h.set.below.setCell (p := ⟨w.heap.size + 3, 0, none⟩) (show w.heap.size ≤ w.heap.size + 3 by omega) _).setCell (p := ⟨w.heap.size + 3, 1, none⟩) (show w.heap.size ≤ w.heap.size + 3 by omega) _, (h.set.lies.there (a := ⟨w.heap.size + 3, 0, none⟩) (show w.heap.size ≠ w.heap.size + 3 by omega) _).there (a := ⟨w.heap.size + 3, 1, none⟩) (show w.heap.size ≠ w.heap.size + 3 by omega) _⟩,
   (h.res.there (a := ⟨w.heap.size + 3, 0, none⟩) (show w.heap.size + 1 ≠ w.heap.size + 3 by omega) _).there (a := ⟨w.heap.size + 3, 1, none⟩) (show w.heap.size + 1 ≠ w.heap.size + 3 by omega) _,
   (Lies.there h.row (a := ⟨w.heap.size + 3, 0, none⟩) (show w.heap.size + 2 ≠ w.heap.size + 3 by omega) _).there (a := ⟨w.heap.size + 3, 1, none⟩) (show w.heap.size + 2 ≠ w.heap.size + 3 by omega) _,
   (h.vd.here 0 _).here 1 _⟩
theorem VSt.ends (h : VSt w b a n cap ok late R W) :
    let V := ((W.setCell ⟨w.heap.size + 1, 0, none⟩ (.bool ok)).setCell ⟨w.heap.size + 1, 1, none⟩ (.int .i64 late)).setCell ⟨w.heap.size + 1, 2, none⟩ (.slice (some ⟨w.heap.size + 2, 0, none⟩) n n)
    Lies V (w.heap.size + 1) 29 #[.bool ok, .int .i64 late, .slice (some ⟨w.heap.size + 2, 0, none⟩) n n] ∧ Row V (w.heap.size + 2) R ∧ Below w.heap.size w V := by
  refine ⟨((h.res.here 0 _).here 1 _).here 2 _, ?_, ?_⟩
  · exact ((Lies.there h.row (a := ⟨w.heap.size + 1, 0, none⟩) (show w.heap.size + 2 ≠ w.heap.size + 1 by omega) _).there (a := ⟨w.heap.size + 1, 1, none⟩) (show w.heap.size + 2 ≠ w.heap.size + 1 by omega) _).there (a := ⟨w.heap.size + 1, 2, none⟩) (show w.heap.size + 2 ≠ w.heap.size + 1 by omega) _
  · exact ((h.set.below.setCell (p := ⟨w.heap.size + 1, 0, none⟩) (show w.heap.size ≤ w.heap.size + 1 by omega) _).setCell (p := ⟨w.heap.size + 1, 1, none⟩) (show w.heap.size ≤ w.heap.size + 1 by omega) _).setCell (p := ⟨w.heap.size + 1, 2, none⟩) (show w.heap.size ≤ w.heap.size + 1 by omega) _
end
/-- All priorities below p, and of p itself the first i places, are judged. -/
def uptoQ (l : List Tk) (p i : Nat) (k : Nat) : Prop := ∀ t, l[k]? = some t → t.Prio < (p : Int) ∨ t.Prio = (p : Int) ∧ k < i
def Stands (b g : Int) (l : List Tk) (p i : Nat) (ok : Bool) (late : Int) (R : List Int) : Prop :=
  (ok = true ∧ late = -1 ∧ Upto b g l (uptoQ l p i) R) ∨ (ok = false ∧ Verd b g l false late R)
section
variable {b g : Int} {l : List Tk} {p i : Nat} {ok : Bool} {late : Int} {R : List Int} {o : Tk}
theorem Stands.same {p' i' : Nat} (h : Stands b g l p i ok late R) (e : ∀ k t, l[k]? = some t → ((t.Prio < (p : Int) ∨ t.Prio = (p : Int) ∧ k < i) ↔ (t.Prio < (p' : Int) ∨ t.Prio = (p' : Int) ∧ k < i'))) : Stands b g l p' i' ok late R := by
  rcases h with ⟨h1, h2, h3⟩ | h
  · exact .inl ⟨h1, h2, h3.cong (fun k hk => by
      have hx := List.getElem?_eq_getElem hk
      exact ⟨fun h t ht => (e k t ht).1 (h t ht), fun h t ht => (e k t ht).2 (h t ht)⟩)⟩
  · exact .inr h
theorem Stands.over (h : Stands b g l p i false late R) (p' i' : Nat) : Stands b g l p' i' false late R := by
  rcases h with ⟨h1, _⟩ | h
  · cases h1
  · exact .inr h
theorem Stands.yes (h : Stands b g l p i true late R) : late = -1 ∧ Upto b g l (uptoQ l p i) R := by
  rcases h with ⟨_, h1, h2⟩ | ⟨h, _⟩
  · exact ⟨h1, h2⟩
  · cases h
theorem Stands.next {r : Int} (h : Stands b g l p i true late R) (ho : l[i]? = some o) (hp : o.Prio = (p : Int)) (hr : Resp (nextV b l o g) o.D r true) : Stands b g l p (i + 1) true late (R.set i r) := by
  obtain ⟨h1, h2⟩ := h.yes
  refine .inl ⟨rfl, h1, (h2.next ho hr).cong (fun k hk => ?_)⟩
  have hx := List.getElem?_eq_getElem hk
  constructor
  · rintro (h | rfl) t ht
    · rcases h t ht with h | ⟨h, h'⟩
      · exact .inl h
      · exact .inr ⟨h, by omega⟩
    · rw [ho] at ht; cases ht; exact .inr ⟨hp, by omega⟩
  · intro h
    by_cases hki : k = i
    · exact .inr hki
    · refine .inl (fun t ht => ?_)
      rcases h t ht with h | ⟨h, h'⟩
      · exact .inl h
      · exact .inr ⟨h, by omega⟩
theorem Stands.stop (hd : Apart l) (h : Stands b g l p i true late R) (ho : l[i]? = some o) (hp : o.Prio = (p : Int)) (hr : Resp (nextV b l o g) o.D 0 false) (p' i' : Nat) : Stands b g l p' i' false (i : Int) R := by
  obtain ⟨h1, h2⟩ := h.yes
  refine .inr ⟨rfl, h2.stop ho hr (fun k t ht => ?_)⟩
  rw [hp]
  constructor
  · intro h
    rcases h t ht with h | ⟨h, h'⟩
    · exact h
    · have := hd k i t o ht ho (by omega); omega
  · intro h t' ht'
    rw [ht] at ht'; cases ht'; exact .inl h
theorem Stands.ends (h : Stands b g l 256 0 ok late R) (hp : ∀ t ∈ l, 0 ≤ t.Prio ∧ t.Prio ≤ 255) : Verd b g l ok late R := by
  rcases h with ⟨rfl, rfl, h⟩ | ⟨rfl, h⟩
  · exact h.all (fun k hk t ht => .inl (by have := hp t (List.mem_of_getElem? ht); omega))
  · exact h
theorem Stands.start (h : Upto b g l (fun _ => False) R) (hp : ∀ t ∈ l, 0 ≤ t.Prio ∧ t.Prio ≤ 255) : Stands b g l 0 0 true (-1) R :=
  .inl ⟨rfl, rfl, h.cong (fun k hk => by
    have hx := List.getElem?_eq_getElem hk
    refine ⟨False.elim, fun h => ?_⟩
    have := hp _ (List.mem_of_getElem? hx)
    rcases h _ hx with h | ⟨_, h⟩ <;> omega)⟩
end
def PRel (b g : Int) (l : List Tk) (a : Option Addr) (cap : Nat) (w : World) (c : Value) (W : World) : Prop :=
  ∃ (p : Nat) (ok : Bool) (late : Int) (R : List Int), p ≤ 256 ∧ c = .int .i64 (p : Int) ∧ VSt w b a l.length cap ok late R W ∧ Stands b g l p 0 ok late R
def IRel (b g : Int) (l : List Tk) (a : Option Addr) (cap : Nat) (w : World) (p : Nat) (c : Value) (W : World) : Prop :=
  ∃ (i : Nat) (ok : Bool) (late : Int) (R : List Int), i ≤ l.length ∧ c = .int .i64 (i : Int) ∧ VSt w b a l.length cap ok late R W ∧ Stands b g l p i ok late R
set_option maxRecDepth 100000 in
set_option maxHeartbeats 8000000 in
theorem refJudge (b g : Int) {l : List Tk} {a : Option Addr} {cap : Nat} {w : World} (hr : (whyF b l).1 = 0) (ht : Tasks w a cap l) (g0 : 1 ≤ g) (g1 : g ≤ 1049576) :
    Calls Try.prog 15 #[.agg #[.int .i64 b, .slice a l.length cap], .int .i64 g] w (RefJudged b g l w) := by
  have HG := Lib.hid (good_of hr)
  have hn1 := HG.out.n1
  have hn0 := HG.out.n0
  have HT := Lib.hid ht
  have KF := Lib.hid (fun k x W r ok (hx : l[k]? = some x) (hb : Below w.heap.size w W) hR => refResponse b g (v := r) (ok := ok) (w := W) (by omega) HG.out.fine (HT.out.below (Nat.le_refl _) hb) hx HG.out.dist HG.out.b0 HG.out.b1 g0 g1 hR)
  have hmk := fun W => make_nums l.length (by omega) W
  obtain ⟨X, hX⟩ : ∃ X, X = (((w.alloc (.cells #[.int .i64 b, .slice a l.length cap] 24)).alloc (.cells #[.bool false, .int .i64 0, .slice none 0 0] 29)).alloc (.cells (madeCells #[.int .i64 0] l.length) 3)).alloc (.cells #[.bool true, .int .i64 (-1), .slice (some ⟨w.heap.size + 2, 0, none⟩) l.length l.length] 29) := ⟨_, rfl⟩
  have HV : Hid (VSt w b a l.length cap true (-1) (List.replicate l.length 0) X) := Lib.hid (by
    have e1 := Lies.made (w.alloc (.cells #[.int .i64 b, .slice a l.length cap] 24)) 29 #[.bool false, .int .i64 0, .slice none 0 0]
    have e2 := Row.made ((w.alloc (.cells #[.int .i64 b, .slice a l.length cap] 24)).alloc (.cells #[.bool false, .int .i64 0, .slice none 0 0] 29)) l.length
    have e3 := Lies.made (((w.alloc (.cells #[.int .i64 b, .slice a l.length cap] 24)).alloc (.cells #[.bool false, .int .i64 0, .slice none 0 0] 29)).alloc (.cells (madeCells #[.int .i64 0] l.length) 3)) 29 #[.bool true, .int .i64 (-1), .slice (some ⟨w.heap.size + 2, 0, none⟩) l.length l.length]
    rw [hX]
    exact ⟨((((SetBox.made w b a l.length cap).tells (below_new _ _)).tells (below_new _ _)).tells (below_new _ _)), by simpa using (e1.alloc _).alloc (.cells #[.bool true, .int .i64 (-1), .slice (some ⟨w.heap.size + 2, 0, none⟩) l.length l.length] 29), by
      show Lies _ (w.heap.size + 1 + 1) _ _
      simpa using Lies.alloc e2 (.cells #[.bool true, .int .i64 (-1), .slice (some ⟨w.heap.size + 2, 0, none⟩) l.length l.length] 29), by simpa using e3⟩)
  have HXE := Lib.hid hX
  clear hX ht hr
  go_enter Try.func15, Try.ntmps15
  go_upto_region 2 with fail
  rw [← HXE.out]
  clear HXE hmk
  go_wp2
  go_loopw [6] (fun c W => PRel b g l a cap w c W) (fun c _ => 256 - (intOf c).toNat)
  case atStart => exact ⟨0, true, -1, _, by omega, rfl, HV.out, Stands.start (Upto.none (by simp) (fun k hk => by simp [hk]) (fun k h => h)) HG.out.prio⟩
  case round =>
    obtain ⟨p, ok, late, R, hp, rfl, hv, hs⟩ := hrel
    have HP := Lib.hid hv
    have HS := Lib.hid hs
    clear hv hs HV
    by_cases hp2 : p ≤ 255
    · have t1 : decide ((p : Int) ≤ 255) = true := by simp; omega
      go_wp2
      go_loopw [7] (fun c W => IRel b g l a cap w p c W) (fun c _ => l.length - (intOf c).toNat)
      case atStart => exact ⟨0, ok, late, R, by omega, rfl, HP.out, HS.out⟩
      case round =>
        clear HP HS ok late R
        obtain ⟨i, ok, late, R, hi, rfl, hv, hs⟩ := hrel
        have HP := Lib.hid hv
        have HS := Lib.hid hs
        clear hv hs
        obtain ⟨s0, s1⟩ := HP.out.set.cells
        by_cases hlt : i < l.length
        · have t2 : decide ((i : Int) < (l.length : Int)) = true := by simp; omega
          have HX := Lib.hid (List.getElem?_eq_getElem hlt)
          have HT1 := Lib.hid (HT.out.below (Nat.le_refl _) HP.out.set.below)
          obtain ⟨r, is, hR⟩ := resp_of HG.out g0 HX.out
          have HR := Lib.hid hR
          clear hR
          generalize l[i]'_ = x at HX HR
          obtain ⟨bb, off, rfl, hbl, x0, x1, x2, x3, x4, x5, x6, x7, x8, x9, x10⟩ := HT1.out.cells HX.out
          clear x0 x1 x2 x3 x4 x5 x6 x7 x8 x9 HT1
          have v0 : wr.cell? ⟨w.heap.size + 3, 0, none⟩ = some (.bool ok) := HP.out.vd.cell 0
          by_cases hxp : x.Prio = (p : Int)
          · have t3 : (x.Prio == (p : Int)) = true := by simp [hxp]
            have t3' : (x.Prio != (p : Int)) = false := by simp [hxp]
            cases ok
            · have HN := Lib.hid (HS.out.over p (i + 1))
              go_wp2
              go_roundw
              case rel => exact ⟨i + 1, false, late, R, by omega, by go_num, HP.out, HN.out⟩
              case measure => simp [intOf]; omega
            · have KF1 := Lib.hid (KF.out i x wr r is HX.out HP.out.set.below HR.out)
              go_wp2_with (fail)
              with_reducible refine KF1.out.mono ?_
              rintro e w5 ⟨rfl, hb5⟩
              have HP5 := Lib.hid (HP.out.tells hb5)
              clear hb5 s0 s1 KF1 HP x10 v0
              have v0 : w5.cell? ⟨w.heap.size + 3, 0, none⟩ = some (.bool true) := HP5.out.vd.cell 0
              have v1 : w5.cell? ⟨w.heap.size + 3, 1, none⟩ = some (.int .i64 late) := HP5.out.vd.cell 1
              have v2 : w5.cell? ⟨w.heap.size + 3, 2, none⟩ = some (.slice (some ⟨w.heap.size + 2, 0, none⟩) l.length l.length) := HP5.out.vd.cell 2
              have f0 := HP5.out.vd.thawed 0
              have f1 := HP5.out.vd.thawed 1
              cases is
              · obtain rfl := (Resp.no HR.out).1
                have HN := Lib.hid (HS.out.stop HG.out.dist HX.out hxp HR.out p (i + 1))
                have HP6 := Lib.hid (HP5.out.late_ (i : Int))
                go_wp2
                go_roundw
                case rel => exact ⟨i + 1, false, _, R, by omega, by go_num, HP6.out, HN.out⟩
                case measure => simp [intOf]; omega
              · have HN := Lib.hid (HS.out.next HX.out hxp HR.out)
                have HP6 := Lib.hid (HP5.out.put i r)
                have hkR : i < R.length := by rw [HS.out.yes.2.1]; exact hlt
                have ck := Lies.cell HP5.out.row i
                have fk := Lies.thawed HP5.out.row i
                simp only [cellsI, List.getElem?_toArray, List.getElem?_map, List.getElem?_eq_getElem hkR, Option.map_some] at ck
                go_wp2
                go_roundw
                case rel => exact ⟨i + 1, true, late, _, by omega, by go_num, HP6.out, HN.out⟩
                case measure => simp [intOf]; omega
          · have t3 : (x.Prio == (p : Int)) = false := beq_eq_false_iff_ne.2 hxp
            have t3' : (x.Prio != (p : Int)) = true := by simp [hxp]
            have HN := Lib.hid (HS.out.same (p' := p) (i' := i + 1) (fun k t ht => by
              by_cases hki : k = i
              · subst hki
                have := HX.out
                rw [ht] at this; cases this
                omega
              · omega))
            go_wp2
            go_roundw
            case rel => exact ⟨i + 1, ok, late, R, by omega, by go_num, HP.out, HN.out⟩
            case measure => simp [intOf]; omega
        · have t2 : decide ((i : Int) < (l.length : Int)) = false := by simp; omega
          have t2' : decide (i < l.length) = false := by simp; omega
          obtain rfl : i = l.length := by omega
          have HN := Lib.hid (HS.out.same (p' := p + 1) (i' := 0) (fun k t ht => by
            have hk := (List.getElem?_eq_some_iff.1 ht).1
            omega))
          go_wp2
          go_roundw
          case rel => exact ⟨p + 1, ok, late, R, by omega, by go_num, HP.out, HN.out⟩
          case measure => simp [intOf]; omega
    · have t1 : decide ((p : Int) ≤ 255) = false := by simp; omega
      have t1' : decide (p ≤ 255) = false := by simp; omega
      obtain rfl : p = 256 := by omega
      have HN := Lib.hid (HS.out.ends HG.out.prio)
      have HE := Lib.hid HP.out.ends
      have z0 : wr.cell? ⟨w.heap.size + 1, 0, none⟩ = some (.bool false) := HP.out.res.cell 0
      have z1 : wr.cell? ⟨w.heap.size + 1, 1, none⟩ = some (.int .i64 0) := HP.out.res.cell 1
      have z2 : wr.cell? ⟨w.heap.size + 1, 2, none⟩ = some (.slice none 0 0) := HP.out.res.cell 2
      have f0 := HP.out.res.thawed 0
      have f1 := HP.out.res.thawed 1
      have f2 := HP.out.res.thawed 2
      have v0 : wr.cell? ⟨w.heap.size + 3, 0, none⟩ = some (.bool ok) := HP.out.vd.cell 0
      have v1 : wr.cell? ⟨w.heap.size + 3, 1, none⟩ = some (.int .i64 late) := HP.out.vd.cell 1
      have v2 : wr.cell? ⟨w.heap.size + 3, 2, none⟩ = some (.slice (some ⟨w.heap.size + 2, 0, none⟩) l.length l.length) := HP.out.vd.cell 2
      go_wp2
      refine bodyPost_ret (results_v1 rfl _ _ (w.heap.size + 1) _ rfl HE.out.1 rfl) rfl ?_
      exact ⟨_, _, R, _, rfl, HN.out, HE.out.2.1, by omega, HE.out.2.2⟩
end Go.Proofs.Ytklnokhabomnfaa
