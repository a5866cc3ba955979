/- Whether two sets are the same. -/
import Derived.Test.YtbijgmaeechmoaaDoorKSa
import Derived.Laws.StructEq
import Derived.Deep.DeepCutAuto
namespace Go.Proofs.YtbijgmaeechmoaaDoor.Kx
open Go.RowKit
set_option maxRecDepth 100000

def eqB (t u : Tk) : Bool := t.name.toList == u.name.toList && (t.T == u.T && (t.D == u.D && (t.C == u.C && (t.A == u.A && (t.Seg == u.Seg && (t.Cost == u.Cost && (t.M == u.M && (t.K == u.K && (t.Mode == u.Mode && t.Prio == u.Prio)))))))))
theorem eqB_iff (t u : Tk) : eqB t u = true ↔ t = u := by
  constructor
  · intro h
    obtain ⟨n, a1, a2, a3, a4, a5, a6, a7, a8, a9, a10⟩ := t
    obtain ⟨m, b1, b2, b3, b4, b5, b6, b7, b8, b9, b10⟩ := u
    simp only [eqB, Bool.and_eq_true, beq_iff_eq] at h
    obtain ⟨h0, rfl, rfl, rfl, rfl, rfl, rfl, rfl, rfl, rfl, rfl⟩ := h
    have : n = m := by
      rw [Lib.toList_data, Lib.toList_data] at h0
      cases n; cases m
      simp only [ByteArray.mk.injEq]
      exact Array.toList_inj.1 h0
    rw [this]
  · rintro rfl
    simp [eqB]
set_option maxHeartbeats 2000000 in
theorem eqK (t u : Tk) (w : World) : (Op.equalIn 10000 26 (aggK t) (aggK u)).run Tryd.prog w = .ok (eqB t u) w := by
  have u3 := Tryd.underlying3
  have a3 := Tryd.isAgg3
  have z3 := Tryd.sizeOf3
  have u9 := Tryd.underlying9
  have a9 := Tryd.isAgg9
  have z9 := Tryd.sizeOf9
  have hS : Tryd.prog.underlying 26 = some (.struct (Tryd.prog.fieldsOf 26)) := by kernel_rfl
  unfold aggK
  rw [show (10000 : Nat) = 9999 + 1 from rfl, run_equalIn_agg w 9999 26 _ _ hS (by kernel_rfl)]
  simp only [Program.fieldsOf, Tryd.underlying26]
  go_simp
  unfold eqB
  repeat' split
  all_goals simp [*]
/-- It answers whether p holds; new memory was made, nothing else. -/
def Asks (p : Prop) (w : World) (e : Ending) (w' : World) : Prop := ∃ r : Bool, e = .returned (.bool r) ∧ (r = true ↔ p) ∧ Below w.heap.size w w'
theorem asks_no {p : Prop} {w w' : World} (h : ¬ p) (hb : Below w.heap.size w w') : Asks p w (.returned (.bool false)) w' := ⟨false, rfl, ⟨fun e => (by cases e), fun e => absurd e h⟩, hb⟩
theorem asks_yes {p : Prop} {w w' : World} (h : p) (hb : Below w.heap.size w w') : Asks p w (.returned (.bool true)) w' := ⟨true, rfl, ⟨fun _ => h, fun _ => rfl⟩, hb⟩
def UpRel (l m : List Tk) (V : World) (i : Value) (W : World) : Prop := ∃ k d : Nat, k ≤ l.length ∧ i = .int .i64 (k : Int) ∧ W = V.drewN d ∧ l.take k = m.take k

set_option maxHeartbeats 4000000 in
theorem sameAny (b b' : Int) (l m : List Tk) (x y : Option Addr) (c d : Nat) {w : World} (hl : l.length ≤ 1000) (hm : m.length ≤ 1000) (hx : Tasks w x c l) (hy : Tasks w y d m) :
    Calls Tryd.prog 17 #[.agg #[.int .i64 b, .slice x l.length c], .agg #[.int .i64 b', .slice y m.length d]] w (Asks (b = b' ∧ l = m) w) := by
  obtain ⟨V, hV⟩ : ∃ V, V = (w.alloc (.cells #[.int .i64 b, .slice x l.length c] 24)).alloc (.cells #[.int .i64 b', .slice y m.length d] 24) := ⟨_, rfl⟩
  have HB := Lib.hid (show Below w.heap.size w V by rw [hV]; exact (below_new _ _).alloc (by simp) _)
  have HXV := Lib.hid (hx.below (Nat.le_refl _) HB.out)
  have HYV := Lib.hid (hy.below (Nat.le_refl _) HB.out)
  have HL1 : Hid (Lies V w.heap.size 24 #[.int .i64 b, .slice x l.length c]) := by rw [hV]; exact (Lies.made _ _ _).alloc _
  have HL2 := Lib.hid (show Lies V (w.heap.size + 1) 24 #[.int .i64 b', .slice y m.length d] by
    rw [hV]
    have := Lies.made (w.alloc (.cells #[.int .i64 b, .slice x l.length c] 24)) 24 #[.int .i64 b', .slice y m.length d]
    simpa using this)
  have HV := Lib.hid hV
  have y0 : V.cell? ⟨w.heap.size, 0, none⟩ = some (.int .i64 b) := HL1.out.cell 0
  have y1 : V.cell? ⟨w.heap.size, 1, none⟩ = some (.slice x l.length c) := HL1.out.cell 1
  have z0 : V.cell? ⟨w.heap.size + 1, 0, none⟩ = some (.int .i64 b') := HL2.out.cell 0
  have z1 : V.cell? ⟨w.heap.size + 1, 1, none⟩ = some (.slice y m.length d) := HL2.out.cell 1
  clear hV hx hy
  obtain ⟨p, hp⟩ : ∃ p : Prop, p = (b = b' ∧ l = m) := ⟨_, rfl⟩
  rw [← hp]
  have HP := Lib.hid hp
  clear hp
  by_cases hb : b = b'
  · subst hb
    by_cases hlm : l.length = m.length
    · have HLM := Lib.hid hlm
      have e2 : ((l.length : Int) != (m.length : Int)) = false := by simp [hlm]
      clear hlm
      go_enter Tryd.func17, Tryd.ntmps17
      go_upto_region 1 with fail
      rw [← HV.out]
      go_wp2
      go_loopw [5] (fun i W => UpRel l m V i W) (fun i _ => l.length - (intOf i).toNat)
      case atStart => exact ⟨0, 0, by omega, rfl, rfl, rfl⟩
      case round =>
        obtain ⟨k, dd, hk, rfl, rfl, hpre⟩ := hrel
        have HPRE := Lib.hid hpre
        clear hpre
        by_cases hlt : k < l.length
        · have t1 : decide ((k : Int) < (l.length : Int)) = true := by simp; omega
          have hlt' : k < m.length := by have := HLM.out; omega
          have hx1 : l[k]? = some l[k] := List.getElem?_eq_getElem hlt
          have hx2 : m[k]? = some m[k] := List.getElem?_eq_getElem hlt'
          obtain ⟨b1, o1, rfl, _, u0, u1, u2, u3, u4, u5, u6, u7, u8, u9, u10⟩ := HXV.out.cells hx1
          obtain ⟨b2, o2, rfl, _, v0, v1, v2, v3, v4, v5, v6, v7, v8, v9, v10⟩ := HYV.out.cells hx2
          have HE := Lib.hid (eqB_iff l[k] m[k])
          have hq := fun W => eqK l[k] m[k] W
          have HT1 := Lib.hid (take_next hx1)
          have HT2 := Lib.hid (take_next hx2)
          have HX1 := Lib.hid hx1
          have HX2 := Lib.hid hx2
          clear hx1 hx2
          generalize l[k] = t at u0 u1 u2 u3 u4 u5 u6 u7 u8 u9 u10 HE hq HT1 HX1
          generalize m[k] = u at v0 v1 v2 v3 v4 v5 v6 v7 v8 v9 v10 HE hq HT2 HX2
          generalize eqB t u = r at HE hq
          obtain ⟨n, tT, tD, tC, tA, tS, tc, tM, tK, tO, tP⟩ := t
          obtain ⟨n', sT, sD, sC, sA, sS, sc, sM, sK, sO, sP⟩ := u
          simp only [aggK] at u0 u1 u2 u3 u4 u5 u6 u7 u8 u9 u10 v0 v1 v2 v3 v4 v5 v6 v7 v8 v9 v10 hq
          cases r with
          | true =>
            have HTT := Lib.hid (show l.take (k + 1) = m.take (k + 1) by rw [HT1.out, HT2.out, HPRE.out, HE.out.1 rfl])
            go_wp2
            go_quiet (fail)
            go_wp2
            go_roundw
            case rel => first | exact ⟨k + 1, _, by omega, by go_num, rfl, HTT.out⟩ | exact ⟨k + 1, _, by omega, by go_num, World.drewN_drewN _ _ _, HTT.out⟩
            case measure => simp [intOf]; omega
          | false =>
            have HNE := Lib.hid (show ¬ l = m from fun e => by
              subst e
              have := HX1.out.symm.trans HX2.out
              have h2 := HE.out.2 (Option.some.inj this)
              cases h2)
            go_wp2
            go_quiet (fail)
            go_wp2
            go_ret
            exact asks_no (by rw [HP.out]; exact fun h => HNE.out h.2) (below_drewN (below_drewN HB.out _) _)
        · have t1 : decide ((k : Int) < (l.length : Int)) = false := by simp; omega
          have t1' : decide (k < l.length) = false := by simp; omega
          have HEQ := Lib.hid (show l = m by
            have := HPRE.out
            have hlm := HLM.out
            rw [List.take_of_length_le (by omega), List.take_of_length_le (by omega)] at this
            exact this)
          go_wp2
          go_ret
          exact asks_yes (by rw [HP.out]; exact ⟨trivial, HEQ.out⟩) (below_drewN HB.out dd)
    · have e2 : ((l.length : Int) != (m.length : Int)) = true := by simp; omega
      have HNE := Lib.hid (show ¬ l = m from fun e => hlm (by rw [e]))
      have hlm' : ¬ ((l.length : Int) = (m.length : Int)) := by omega
      clear hlm
      go_enter Tryd.func17, Tryd.ntmps17
      go_upto_region 1 with fail
      rw [← HV.out]
      go_wp2
      go_ret
      exact asks_no (by rw [HP.out]; exact fun h => HNE.out h.2) HB.out
  · have e1 : (b != b') = true := by simpa using hb
    have HNE := Lib.hid hb
    go_enter Tryd.func17, Tryd.ntmps17
    go_upto_region 1 with fail
    rw [← HV.out]
    go_wp2
    go_ret
    exact asks_no (by rw [HP.out]; exact fun h => HNE.out h.1) HB.out
end Go.Proofs.YtbijgmaeechmoaaDoor.Kx
