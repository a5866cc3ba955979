/- The statements' own words: apart, same; a slot reserved, as one law. -/
import Derived.Test.YtojnkkkgkmgagaaTe
import Derived.Laws.StructEq
namespace Go.Proofs.Ytojnkkkgkmgagaa
open Go.RowKit

/-! Reserve, in one. -/
def resE (room : Nat) (m : List Ky) (id gr n fr en : Int) : Int :=
  if rgtB n fr en = true then if id ∈ m.map idK then 7 else if room ≤ m.length then 3 else if lat m gr n en < fr then 4 else 0 else 1
def resP (room : Nat) (m : List Ky) (id gr n fr en : Int) : Int := if resE room m id gr n fr en = 0 then lat m gr n en else 0
def resM (room : Nat) (m : List Ky) (id gr n fr en : Int) : List Ky := if resE room m id gr n fr en = 0 then putK m (id, gr, lat m gr n en, lat m gr n en + n) else m
section
variable {B p room : Nat} {g : Option Nat} {w : World} {m : List Ky} {id gr n fr en : Int}
theorem reserve (id gr n fr en : Int) (h : Tab B w p room g m) : Calls Try.prog 12 #[.pointer (some ⟨p, 0, none⟩), .int .i64 id, .int .i64 gr, .int .i64 n, .int .i64 fr, .int .i64 en] w
    (Acts (.tuple #[.int .i64 (resP room m id gr n fr en), .int .i64 (resE room m id gr n fr en)]) B p room g (resM room m id gr n fr en) w) := by
  have hT := h
  obtain ⟨v, rfl, h⟩ := h
  have key : ∀ (E : Int), resE room m id gr n fr en = E → E ≠ 0 → Calls Try.prog 12 #[.pointer (some ⟨p, 0, none⟩), .int .i64 id, .int .i64 gr, .int .i64 n, .int .i64 fr, .int .i64 en] w (Tells (.tuple #[.int .i64 0, .int .i64 E]) w) →
      Calls Try.prog 12 #[.pointer (some ⟨p, 0, none⟩), .int .i64 id, .int .i64 gr, .int .i64 n, .int .i64 fr, .int .i64 en] w (Acts (.tuple #[.int .i64 (resP room m id gr n fr en), .int .i64 (resE room m id gr n fr en)]) B p room v.ownBlock (resM room m id gr n fr en) w) := fun E hE h0 hc => by
    unfold resP resM
    rw [hE, if_neg h0, if_neg h0]
    exact hc.mono fun e w' ht => Acts.of_tells hT ht
  by_cases hr : rgtB n fr en = true
  · have hR := rgt_iff.1 hr
    by_cases hid : id ∈ m.map idK
    · exact key 7 (by unfold resE; rw [if_pos hr, if_pos hid]) (by decide) (res_twice h hR hid)
    · by_cases hf : room ≤ m.length
      · exact key 3 (by unfold resE; rw [if_pos hr, if_neg hid, if_pos hf]) (by decide) (res_full h hR hid hf)
      · by_cases hl : lat m gr n en < fr
        · exact key 4 (by unfold resE; rw [if_pos hr, if_neg hid, if_neg hf, if_pos hl]) (by decide) (res_none h hR hid (by omega) hl)
        · have h0 : resE room m id gr n fr en = 0 := by unfold resE; rw [if_pos hr, if_neg hid, if_neg hf, if_neg hl]
          unfold resP resM
          rw [h0, if_pos rfl, if_pos rfl]
          exact res_ok h hR hid (by omega) (by omega)
  · exact key 1 (by unfold resE; rw [if_neg hr]) (by decide) (res_arg (fun hR => hr (rgt_iff.2 hR)))
def freeE (m : List Ky) (id : Int) : Int := if id ∈ m.map idK then 0 else 4
theorem free_ (id : Int) (h : Tab B w p room g m) : Calls Try.prog 11 #[.pointer (some ⟨p, 0, none⟩), .int .i64 id] w (Acts (.int .i64 (freeE m id)) B p room g (wo m id) w) := by
  have hT := h
  obtain ⟨v, rfl, h⟩ := h
  unfold freeE
  by_cases hid : id ∈ m.map idK
  · rw [if_pos hid]
    exact free_yes id h hid
  · rw [if_neg hid, wo_none (ids_none.2 hid)]
    exact (free_no id h hid).mono fun e w' ht => Acts.of_tells hT ht
theorem all_of (h : Tab B w p room g m) : Calls Try.prog 16 #[.pointer (some ⟨p, 0, none⟩)] w (Rows1 m.length m w) := by
  obtain ⟨v, rfl, h⟩ := h
  exact all_ h
theorem at_of (tick : Int) (h : Tab B w p room g m) : Calls Try.prog 17 #[.pointer (some ⟨p, 0, none⟩), .int .i64 tick] w (Rows1 (atL tick m).length (atL tick m) w) := by
  obtain ⟨v, rfl, h⟩ := h
  exact at_ tick h
theorem depth_of (tick : Int) (h : Tab B w p room g m) : Calls Try.prog 18 #[.pointer (some ⟨p, 0, none⟩), .int .i64 tick] w (Tells (.int .i64 ((atL tick m).length : Int)) w) := by
  obtain ⟨v, rfl, h⟩ := h
  exact depth_ tick h
end

/-! apart. -/
def hitB (s x : Ky) : Bool := x.2.1 == s.2.1 && decide (x.2.2.1 < s.2.2.2) && decide (s.2.2.1 < x.2.2.2)
def apB (l : List Ky) (s : Ky) : Bool := l.all fun x => !hitB s x
theorem apB_yes {l : List Ky} {s : Ky} (h : ∀ (j : Nat) x, l[j]? = some x → hitB s x = false) : apB l s = true := by
  unfold apB
  rw [List.all_eq_true]
  intro x hx
  obtain ⟨j, hj⟩ := List.getElem?_of_mem hx
  rw [h j x hj]; rfl
theorem apB_no {l : List Ky} {s x : Ky} {j : Nat} (hj : l[j]? = some x) (h : hitB s x = true) : apB l s = false := by
  unfold apB
  rw [List.all_eq_false]
  exact ⟨x, List.mem_of_getElem? hj, by rw [h]; decide⟩
def ApRel (l : List Ky) (s : Ky) (V : World) (i : Value) (W : World) : Prop := ∃ j : Nat, j ≤ l.length ∧ i = .int .i64 (j : Int) ∧ Below V.heap.size V W ∧ ∀ i x, i < j → l[i]? = some x → hitB s x = false
set_option maxRecDepth 100000 in
set_option maxHeartbeats 4000000 in
theorem refApart (l : List Ky) (s : Ky) (a : Option Addr) (n c : Nat) {w : World} (hn : l.length = n) (hl : n ≤ 1000) (hk : Keys w a c l) : Calls Try.prog 13 #[.slice a n c, aggQ s] w (Tells (.bool (apB l s)) w) := by
  obtain ⟨s0, s1, s2, s3⟩ := s
  simp only [aggQ]
  subst hn
  obtain ⟨V, hV⟩ : ∃ V, V = w.alloc (.cells #[.int .i64 s0, .int .i64 s1, .int .i64 s2, .int .i64 s3] 33) := ⟨_, rfl⟩
  have HBV : Hid (Below w.heap.size w V) := by rw [hV]; exact below_new _ _
  have HLV : Hid (Lies V w.heap.size 33 #[.int .i64 s0, .int .i64 s1, .int .i64 s2, .int .i64 s3]) := by rw [hV]; exact Lies.made _ _ _
  have HKV := Lib.hid (hk.below (Nat.le_refl _) HBV.out)
  have HVE := Lib.hid hV
  clear hV hk
  go_enter Try.func13, Try.ntmps13
  go_wp2
  rw [← HVE.out]
  go_loopw [5] (fun i W => ApRel l (s0, s1, s2, s3) V i W) (fun i _ => l.length - (intOf i).toNat)
  case atStart => exact ⟨0, by omega, rfl, Below.refl _ _, fun i x hi => by omega⟩
  case round =>
    obtain ⟨j, hj, rfl, hb, hall⟩ := hrel
    have HA := Lib.hid hall
    have HB := Lib.hid hb
    have HL := Lib.hid (HLV.out.below hb HLV.out.lt)
    have HK := Lib.hid (HKV.out.below (Nat.le_refl _) hb)
    clear hb hall
    have z1 : wr.cell? ⟨w.heap.size, 1, none⟩ = some (.int .i64 s1) := HL.out.cell 1
    have z2 : wr.cell? ⟨w.heap.size, 2, none⟩ = some (.int .i64 s2) := HL.out.cell 2
    have z3 : wr.cell? ⟨w.heap.size, 3, none⟩ = some (.int .i64 s3) := HL.out.cell 3
    have hsl := HL.out.lt
    by_cases hjn : j < l.length
    · have t1 : decide ((j : Int) < (l.length : Int)) = true := by simp; omega
      have hx : l[j]? = some l[j] := List.getElem?_eq_getElem _
      obtain ⟨b, off, rfl, hbl, x0, x1, x2, x3⟩ := HK.out.cells hx
      have HX := Lib.hid hx
      clear hx
      generalize l[j] = x at x0 x1 x2 x3 HX
      obtain ⟨y0, y1, y2, y3⟩ := x
      simp only at x0 x1 x2 x3
      have i1 : (0 : Int) ≤ (j : Int) := by omega
      have hh : hitB (s0, s1, s2, s3) (y0, y1, y2, y3) = ((y1 == s1) && decide (y2 < s3) && decide (s2 < y3)) := rfl
      generalize hb1 : (y1 == s1) = b1 at hh
      generalize hb2 : decide (y2 < s3) = b2 at hh
      generalize hb3 : decide (s2 < y3) = b3 at hh
      have HH := Lib.hid hh
      clear hh
      by_cases hhit : b1 = true ∧ b2 = true ∧ b3 = true
      · obtain ⟨rfl, rfl, rfl⟩ := hhit
        have HR := Lib.hid (apB_no HX.out HH.out)
        go_wp2
        go_quiet (fail)
        go_wp2
        go_ret
        exact ⟨by rw [HR.out]; rfl, below_drewN (HBV.out.trans (HB.out.mono HBV.out.size)) _⟩
      · have HA1 : Hid (∀ i x, i < j + 1 → l[i]? = some x → hitB (s0, s1, s2, s3) x = false) := fun i x hi hx => by
          by_cases e : i = j
          · subst e
            rw [HX.out] at hx
            cases hx
            rw [HH.out]
            revert hhit
            cases b1 <;> cases b2 <;> cases b3 <;> simp
          · exact HA.out i x (by omega) hx
        clear HH
        cases b1 with
        | false =>
          clear hhit
          go_wp2
          go_quiet (fail)
          go_wp2
          go_roundw
          case rel => exact ⟨j + 1, by omega, by go_num, below_drewN HB.out _, HA1.out⟩
          case measure => simp [intOf]; omega
        | true =>
          cases b2 with
          | false =>
            clear hhit
            go_wp2
            go_quiet (fail)
            go_wp2
            go_roundw
            case rel => exact ⟨j + 1, by omega, by go_num, below_drewN HB.out _, HA1.out⟩
            case measure => simp [intOf]; omega
          | true =>
            obtain rfl : b3 = false := by cases b3 with
              | false => rfl
              | true => exact absurd ⟨rfl, rfl, rfl⟩ hhit
            clear hhit
            go_wp2
            go_quiet (fail)
            go_wp2
            go_roundw
            case rel => exact ⟨j + 1, by omega, by go_num, below_drewN HB.out _, HA1.out⟩
            case measure => simp [intOf]; omega
    · have t1 : decide ((j : Int) < (l.length : Int)) = false := by simp; omega
      have t1' : decide (j < l.length) = false := by simp; omega
      have HR := Lib.hid (apB_yes (l := l) (s := (s0, s1, s2, s3)) (fun i x hx => HA.out i x (by have := (List.getElem?_eq_some_iff.1 hx).1; omega) hx))
      go_wp2
      go_ret
      exact ⟨by rw [HR.out]; rfl, HBV.out.trans (HB.out.mono HBV.out.size)⟩
end Go.Proofs.Ytojnkkkgkmgagaa
