/- The program's verdict. -/
import Derived.Test.YtklnokhabomnfaaVq
import Derived.Test.YtklnokhabomnfaaVd
import Derived.Test.YtklnokhabomnfaaOd
import Derived.Test.YtklnokhabomnfaaRs
import Derived.Test.YtklnokhabomnfaaGd
import Derived.Test.YtklnokhabomnfaaWz
namespace Go.Proofs.Ytklnokhabomnfaa
open Go.RowKit

/-- It answers the verdict, its row new memory, and no error; nothing else has turned. -/
def Judged (b g : Int) (l : List Tk) (w : World) (e : Ending) (w' : World) : Prop :=
  ∃ (ok : Bool) (late : Int) (R : List Int) (t : Nat), e = .returned (.tuple #[vdV ok late (some ⟨t, 0, none⟩) l.length l.length, .int .i64 0]) ∧ Verd b g l ok late R ∧ Row w' t R ∧ w.heap.size ≤ t ∧ Below w.heap.size w w'
theorem results_vd {fn : Func} {s r : Nat} (h : fn.results = #[.cell s 29, .tmp r]) (tmps : Array Value) (w : World) (g : Nat) (cs : Array Value) (hp : tmps.getD s undef = .pointer (some ⟨g, 0, none⟩)) (hL : Lies w g 29 cs) (hs : cs.size = 3) :
    (results fn tmps).run Try.prog w = .ok (.tuple #[.agg cs, tmps.getD r undef]) w := by
  have hp' : tmps[s]?.getD undef = .pointer (some ⟨g, 0, none⟩) := by simpa using hp
  simp [results, h, hp', asAddr, run_loadVar_row (P := Try.prog) w g 29 29 cs (0, 0) _ hL Try.underlying29 rfl (by rw [hs]; rfl)]
theorem results_v1 {fn : Func} {s : Nat} (h : fn.results = #[.cell s 29]) (tmps : Array Value) (w : World) (g : Nat) (cs : Array Value) (hp : tmps.getD s undef = .pointer (some ⟨g, 0, none⟩)) (hL : Lies w g 29 cs) (hs : cs.size = 3) :
    (results fn tmps).run Try.prog w = .ok (.agg cs) w := by
  have hp' : tmps[s]?.getD undef = .pointer (some ⟨g, 0, none⟩) := by simpa using hp
  simp [results, h, hp', asAddr, run_loadVar_row (P := Try.prog) w g 29 29 cs (0, 0) _ hL Try.underlying29 rfl (by rw [hs]; rfl)]
/-- What is known on the way: the set, the result's cell, the times, the order. -/
structure JSt (w : World) (b : Int) (a : Option Addr) (n cap : Nat) (t q : Nat) (o : Nat → Nat) (R : List Int) (W : World) : Prop where
  set : SetBox w b a n cap W
  res : Lies W (w.heap.size + 1) 29 #[.bool false, .int .i64 0, .slice none 0 0]
  row : Row W t R
  ord : Nums W q n o
  t0 : w.heap.size + 2 ≤ t
  tq : t < q
section
variable {w : World} {b : Int} {a : Option Addr} {n cap t q : Nat} {o : Nat → Nat} {R : List Int} {W W' : World}
theorem JSt.tells (h : JSt w b a n cap t q o R W) (hb : Below W.heap.size W W') : JSt w b a n cap t q o R W' :=
  ⟨h.set.tells hb, h.res.below hb h.res.lt, h.row.tells hb, h.ord.below hb h.ord.lt, h.t0, h.tq⟩
theorem JSt.put (h : JSt w b a n cap t q o R W) (i : Nat) (x : Int) : JSt w b a n cap t q o (R.set i x) (W.setCell ⟨t, i, none⟩ (.int .i64 x)) := by
  have h0 := h.t0
  have h1 := h.tq
  refine ⟨⟨h.set.below.setCell (p := ⟨t, i, none⟩) (show w.heap.size ≤ t by omega) _, h.set.lies.there (a := ⟨t, i, none⟩) (show w.heap.size ≠ t by omega) _⟩, h.res.there (a := ⟨t, i, none⟩) (show w.heap.size + 1 ≠ t by omega) _, h.row.put i x, ?_, h.t0, h.tq⟩
  obtain ⟨cs, h2, h3, h4⟩ := h.ord
  exact ⟨cs, h2.there (a := ⟨t, i, none⟩) (show q ≠ t by omega) _, h3, h4⟩
theorem JSt.ends (h : JSt w b a n cap t q o R W) (ok : Bool) (late : Int) (m c : Nat) :
    let V := ((W.setCell ⟨w.heap.size + 1, 0, none⟩ (.bool ok)).setCell ⟨w.heap.size + 1, 1, none⟩ (.int .i64 late)).setCell ⟨w.heap.size + 1, 2, none⟩ (.slice (some ⟨t, 0, none⟩) m c)
    Lies V (w.heap.size + 1) 29 #[.bool ok, .int .i64 late, .slice (some ⟨t, 0, none⟩) m c] ∧ Row V t R ∧ Below w.heap.size w V := by
  have h0 := h.t0
  refine ⟨((h.res.here 0 _).here 1 _).here 2 _, ?_, ?_⟩
  · exact ((Lies.there h.row (a := ⟨w.heap.size + 1, 0, none⟩) (show t ≠ w.heap.size + 1 by omega) _).there (a := ⟨w.heap.size + 1, 1, none⟩) (show t ≠ w.heap.size + 1 by omega) _).there (a := ⟨w.heap.size + 1, 2, none⟩) (show t ≠ w.heap.size + 1 by omega) _
  · exact ((h.set.below.setCell (p := ⟨w.heap.size + 1, 0, none⟩) (show w.heap.size ≤ w.heap.size + 1 by omega) _).setCell (p := ⟨w.heap.size + 1, 1, none⟩) (show w.heap.size ≤ w.heap.size + 1 by omega) _).setCell (p := ⟨w.heap.size + 1, 2, none⟩) (show w.heap.size ≤ w.heap.size + 1 by omega) _
end
def JRel (b g : Int) (l : List Tk) (a : Option Addr) (cap : Nat) (w : World) (t q : Nat) (o : Nat → Nat) (c : Value) (W : World) : Prop :=
  ∃ (j : Nat) (R : List Int), j ≤ l.length ∧ c = .int .i64 (j : Int) ∧ JSt w b a l.length cap t q o R W ∧ Upto b g l (fun k => ∃ i, i < j ∧ o i = k) R
theorem resp_of {b g : Int} {l : List Tk} (hG : Good b l) (g0 : 1 ≤ g) {k : Nat} {x : Tk} (hx : l[k]? = some x) : ∃ r ok, Resp (nextV b l x g) x.D r ok := by
  have hfo := hG.fine x (List.mem_of_getElem? hx)
  have hn1 := hG.n1
  refine resp_is (next_mono (l := l) (o := x) hG.b0 hG.b1 g0 hG.fine) ?_ x.D ?_
  · have := next_range (w := 0) (o := x) (by omega) (by omega) hG.b0 hG.b1 g0 hG.fine hfo (by omega); omega
  · have := hfo.times; omega
set_option maxRecDepth 100000 in
set_option maxHeartbeats 8000000 in
theorem judge (b g : Int) {l : List Tk} {a : Option Addr} {cap : Nat} {w : World} (hr : (whyF b l).1 = 0) (ht : Tasks w a cap l) (g0 : 1 ≤ g) (g1 : g ≤ 1049576) :
    Calls Try.prog 13 #[.agg #[.int .i64 b, .slice a l.length cap], .int .i64 g] w (Judged b g l w) := by
  have HG := Lib.hid (good_of hr)
  have hn1 := HG.out.n1
  have hn0 := HG.out.n0
  have HT := Lib.hid ht
  have HB := Lib.hid (SetBox.made w b a l.length cap)
  have HZ := Lib.hid (Lies.made (w.alloc (.cells #[.int .i64 b, .slice a l.length cap] 24)) 29 #[.bool false, .int .i64 0, .slice none 0 0])
  have t1 : decide (g < 1) = false := by simp; omega
  have t2 : decide (1049576 < g) = false := by simp; omega
  have KR : Hid (∀ W, Below w.heap.size w W → Calls Try.prog 21 #[.agg #[.int .i64 b, .slice a l.length cap]] W (Tells true W)) := Lib.hid (fun W hb => by
    have := right b l a cap (w := W) (by unfold maxLen; omega) (HT.out.below (Nat.le_refl _) hb)
    rw [hr] at this; exact this)
  have KO := Lib.hid (fun W (hb : Below w.heap.size w W) => order b l a cap (w := W) hn0 hn1 (HT.out.below (Nat.le_refl _) hb))
  have KF := Lib.hid (fun k x W r ok (hx : l[k]? = some x) (hb : Below w.heap.size w W) hR => response b g (v := r) (ok := ok) (w := W) (by omega) HG.out.fine (HT.out.below (Nat.le_refl _) hb) hx HG.out.b0 HG.out.b1 g0 g1 hR)
  have hmk := fun W => make_nums l.length (by omega) W
  clear ht hr
  go_enter Try.func13, Try.ntmps13
  go_upto_region 1 with fail
  obtain ⟨X, hX⟩ : ∃ X, X = (w.alloc (.cells #[.int .i64 b, .slice a l.length cap] 24)).alloc (.cells #[.bool false, .int .i64 0, .slice none 0 0] 29) := ⟨_, rfl⟩
  have HB1 := Lib.hid (HB.out.tells (below_new _ (.cells #[.bool false, .int .i64 0, .slice none 0 0] 29)))
  rw [← hX] at HB1 HZ ⊢
  have HZ1 : Hid (Lies X (w.heap.size + 1) 29 #[.bool false, .int .i64 0, .slice none 0 0]) := Lib.hid (by simpa using HZ.out)
  clear hX HZ HB
  obtain ⟨s0, s1⟩ := HB1.out.cells
  go_wp2_with (fail)
  with_reducible refine (KR.out _ HB1.out.below).mono ?_
  rintro e w1 ⟨rfl, hb1⟩
  have HB2 := Lib.hid (HB1.out.tells hb1)
  have HZ2 := Lib.hid (HZ1.out.below hb1 HZ1.out.lt)
  clear hb1 HB1 HZ1 s0 s1 KR
  obtain ⟨s0, s1⟩ := HB2.out.cells
  go_upto_region 4 with fail
  clear hmk
  have HB3 := Lib.hid (HB2.out.tells (below_new _ (.cells (madeCells #[.int .i64 0] l.length) 3)))
  have HZ3 := Lib.hid (HZ2.out.alloc (.cells (madeCells #[.int .i64 0] l.length) 3))
  have HR3 := Lib.hid (Row.made w1 l.length)
  have ht0 : w.heap.size + 2 ≤ w1.heap.size := by have := HZ2.out.lt; omega
  generalize w1.alloc (.cells (madeCells #[.int .i64 0] l.length) 3) = X3 at HB3 HZ3 HR3 ⊢
  generalize w1.heap.size = t at HR3 ht0 ⊢
  clear s0 s1 HB2 HZ2
  obtain ⟨s0, s1⟩ := HB3.out.cells
  go_wp2_with (fail)
  with_reducible refine (KO.out _ HB3.out.below).mono ?_
  rintro e w4 ⟨q, o, rfl, hb4, hq, hI, hP, hO⟩
  have HJ : Hid (JSt w b a l.length cap t q o (List.replicate l.length 0) w4) := Lib.hid ⟨HB3.out.tells hb4, HZ3.out.below hb4 HZ3.out.lt, HR3.out.tells hb4, hI, ht0, Nat.lt_of_lt_of_le HR3.out.lt hq⟩
  have HP := Lib.hid hP
  have HO : Hid (∀ a c t u, a < c → c < l.length → l[o a]? = some t → l[o c]? = some u → t.Prio ≤ u.Prio) := Lib.hid (fun a c t u h1 h2 h3 h4 => by
    have := hO a c h1 h2
    rwa [keyP_at h3, keyP_at h4] at this)
  clear hb4 hq hI hP hO HB3 HZ3 HR3 ht0 s0 s1 KO
  go_wp2
  go_loopw [30] (fun c W => JRel b g l a cap w t q o c W) (fun c _ => l.length - (intOf c).toNat)
  case atStart => exact ⟨0, _, Nat.zero_le _, rfl, HJ.out, Upto.none (by simp) (fun k hk => by simp [hk]) (fun k ⟨i, h, _⟩ => by omega)⟩
  case round =>
    obtain ⟨j, R, hj, rfl, hst, hu⟩ := hrel
    have HS := Lib.hid hst
    have HU := Lib.hid hu
    clear hst hu HJ
    by_cases hlt : j < l.length
    · have t3 : decide ((j : Int) < (l.length : Int)) = true := by simp; omega
      have cj := HS.out.ord.cell hlt
      have hk := HP.out.1 j hlt
      have HX := Lib.hid (List.getElem?_eq_getElem hk)
      obtain ⟨r, ok, hR⟩ := resp_of HG.out g0 HX.out
      have HR := Lib.hid hR
      have HQ := Lib.hid (fun k t (h : l[k]? = some t) => order_iff HG.out.dist HP.out.1 HP.out.2 HO.out hlt HX.out h)
      have HOJ : Hid (∃ k, k = o j) := Lib.hid ⟨_, rfl⟩
      clear hR
      generalize l[o j]'_ = x at HX HR HQ
      have KF1 := Lib.hid (KF.out (o j) x wr r ok HX.out HS.out.set.below HR.out)
      obtain ⟨k, hkE⟩ : ∃ k, k = o j := ⟨_, rfl⟩
      rw [← hkE] at cj hk HX KF1
      have HK := Lib.hid hkE
      clear hkE
      obtain ⟨s0, s1⟩ := HS.out.set.cells
      go_wp2_with (fail)
      with_reducible refine KF1.out.mono ?_
      rintro e w5 ⟨rfl, hb5⟩
      have HS5 := Lib.hid (HS.out.tells hb5)
      clear hb5 s0 s1 cj KF1 HS
      have q1 : (0 : Int) ≤ (k : Int) := by omega
      have q2 : (k : Int) < (l.length : Int) := by omega
      cases ok
      · obtain rfl := (Resp.no HR.out).1
        have HV := Lib.hid (HU.out.stop HX.out HR.out HQ.out)
        have HE := Lib.hid (HS5.out.ends false (k : Int) l.length l.length)
        have z0 : w5.cell? ⟨w.heap.size + 1, 0, none⟩ = some (.bool false) := HS5.out.res.cell 0
        have z1 : w5.cell? ⟨w.heap.size + 1, 1, none⟩ = some (.int .i64 0) := HS5.out.res.cell 1
        have z2 : w5.cell? ⟨w.heap.size + 1, 2, none⟩ = some (.slice none 0 0) := HS5.out.res.cell 2
        have f0 := HS5.out.res.thawed 0
        have f1 := HS5.out.res.thawed 1
        have f2 := HS5.out.res.thawed 2
        have ht0 := HS5.out.t0
        go_wp2
        refine bodyPost_ret (results_vd rfl _ _ (w.heap.size + 1) _ rfl HE.out.1 rfl) rfl ?_
        exact ⟨_, _, R, t, rfl, HV.out, HE.out.2.1, by omega, HE.out.2.2⟩
      · have HN := Lib.hid (HU.out.next HX.out HR.out)
        have HS6 := Lib.hid (HS5.out.put k r)
        have hkR : k < R.length := by rw [HU.out.1]; exact hk
        have ck := Lies.cell HS5.out.row k
        have fk := Lies.thawed HS5.out.row k
        simp only [cellsI, List.getElem?_toArray, List.getElem?_map, List.getElem?_eq_getElem hkR, Option.map_some] at ck
        go_wp2
        go_roundw
        case rel => exact ⟨j + 1, _, by omega, by go_num, HS6.out, HN.out.cong (fun i _ => ⟨fun h => by
            rcases h with ⟨p, h1, h2⟩ | rfl
            · exact ⟨p, by omega, h2⟩
            · exact ⟨j, by omega, HK.out.symm⟩, fun ⟨p, h1, h2⟩ => by
            by_cases hp : p = j
            · right; rw [← h2, hp, HK.out]
            · left; exact ⟨p, by omega, h2⟩⟩)⟩
        case measure => simp [intOf]; omega
    · have t3 : decide ((j : Int) < (l.length : Int)) = false := by simp; omega
      obtain rfl : j = l.length := by omega
      have HV := Lib.hid (HU.out.all (fun k hk => places_all o _ HP.out.1 HP.out.2 k hk))
      have HE := Lib.hid (HS.out.ends true (-1) l.length l.length)
      have z0 : wr.cell? ⟨w.heap.size + 1, 0, none⟩ = some (.bool false) := HS.out.res.cell 0
      have z1 : wr.cell? ⟨w.heap.size + 1, 1, none⟩ = some (.int .i64 0) := HS.out.res.cell 1
      have z2 : wr.cell? ⟨w.heap.size + 1, 2, none⟩ = some (.slice none 0 0) := HS.out.res.cell 2
      have f0 := HS.out.res.thawed 0
      have f1 := HS.out.res.thawed 1
      have f2 := HS.out.res.thawed 2
      have ht0 := HS.out.t0
      go_wp2
      refine bodyPost_ret (results_vd rfl _ _ (w.heap.size + 1) _ rfl HE.out.1 rfl) rfl ?_
      exact ⟨_, _, R, t, rfl, HV.out, HE.out.2.1, by omega, HE.out.2.2⟩
end Go.Proofs.Ytklnokhabomnfaa
