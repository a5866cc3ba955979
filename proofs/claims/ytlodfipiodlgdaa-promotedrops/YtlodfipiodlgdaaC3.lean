/- The walk of the statement on jobs that are dropped. -/
import Derived.Test.YtlodfipiodlgdaaTw
import Derived.Test.YtlodfipiodlgdaaOp
namespace Go.Proofs.Ytlodfipiodlgdaa.Drops
open Go.RowKit

def PushRel (l : List Int) (d : Int) (w : World) (pa pb : Nat) (i : Value) (W : World) : Prop := ∃ (k : Nat) (Sa Sb : Nat → Prop) (m : List Ky), k ≤ l.length ∧ Fill l 15 k m ∧ i = .int .i64 (k : Int) ∧ Two w Sa pa 0 m Sb pb 0 (oth m d) W
def DropRel (n : Nat) (d : Int) (m : List Ky) (w : World) (pa pb : Nat) (Sb : Nat → Prop) (i : Value) (W : World) : Prop := ∃ (j : Nat) (Sa : Nat → Prop), j ≤ n ∧ i = .int .i64 (j : Int) ∧ Two w Sa pa 0 (left_ m d j) Sb pb 0 (oth m d) W
def SeeRel (n : Nat) (w : World) (i : Value) (W : World) : Prop := ∃ k m : Nat, k ≤ n ∧ i = .int .i64 (k : Int) ∧ W = w.drewN m

set_option maxRecDepth 100000 in
set_option maxHeartbeats 4000000 in
theorem core (l : List Int) (a : Option Addr) (cap : Nat) (dr t : Int) (w : World) (hm : l.length ≤ maxLen) (hr : Smalls w a cap l) (d0 : 0 ≤ dr) (d1 : dr < 256) (ht1 : 0 ≤ t) (ht2 : t < 65536) :
    Calls Try.prog 6 #[.slice a l.length cap, .int .u8 dr, .int .u16 t] w (Woke w) := by
  have HR := Lib.hid hr
  unfold maxLen at hm
  clear hr
  have KN := Lib.hid (fun W (hb : Below w.heap.size w W) => has_new (w0 := w) 200 hb (by omega) (by omega))
  go_enter Try.func6, Try.ntmps6
  go_wp2_with (fail)
  refine (awake _).mono ?_
  rintro e w1 ⟨rfl, hb1⟩
  have B1 := Lib.hid hb1
  clear hb1
  by_cases h3 : 100 < l.length
  · have t1 : decide ((100 : Int) < (l.length : Int)) = true := by simp; omega
    go_wp2_with (fail)
    refine (awake _).mono ?_
    rintro e w2 ⟨rfl, hb2⟩
    go_wp2
    go_ret
    exact ⟨rfl, B1.out.trans (hb2.mono B1.out.size)⟩
  · have t1 : decide ((100 : Int) < (l.length : Int)) = false := by simp; omega
    go_wp2_with (fail)
    refine (KN.out _ B1.out).mono ?_
    rintro e w2 ⟨pa, rfl, -, h2, -⟩
    have H2 := Lib.hid h2
    clear h2
    go_wp2_with (fail)
    refine (KN.out _ H2.out.below).mono ?_
    rintro e w3 ⟨pb, rfl, hpb, h3b, hb3⟩
    have HT : Hid (Two w (fun k => k = pa) pa 0 [] (fun k => k = pb) pb 0 [] w3) := ⟨H2.out.more hb3, h3b, fun k h1 h2 => by have := H2.out.whl.lt; subst h1; omega⟩
    clear h3b hb3 H2 hpb KN
    go_wp2
    go_loopw [11] (fun i W => PushRel l (dr % 7) w pa pb i W) (fun i _ => l.length - (intOf i).toNat)
    case atStart => exact ⟨0, _, _, [], by omega, Fill.nil _ _, rfl, HT.out⟩
    case round =>
      obtain ⟨k, Sa, Sb, m, hk, hfl, rfl, hh⟩ := hrel
      have H3 := Lib.hid hh
      have HF := Lib.hid hfl
      clear hh HT hfl
      by_cases hlt : k < l.length
      · have t4 : decide ((k : Int) < (l.length : Int)) = true := by simp; omega
        have hx : l[k]? = some l[k] := List.getElem?_eq_getElem hlt
        obtain ⟨b, off, rfl, hbl, x0, v0, v1⟩ := (HR.out.below (Nat.le_refl _) H3.out.a.below).at_ hx
        have HX := Lib.hid hx
        clear hx
        generalize l[k] = v at x0 v0 v1 HX
        have HN := Lib.hid (HF.out.next HX.out)
        have hml : m.length ≤ 100 := by rw [HF.out.len]; omega
        have KP := Lib.hid (has_fill (k : Int) v 20 5 (by decide) (by decide) (by decide) v0 v1 HF.out.fresh (by omega) H3.out.a)
        rw [show (20 - 5 : Int) = 15 from rfl] at KP
        go_wp2_with (fail)
        with_reducible refine KP.out.mono ?_
        rintro e w4 ⟨rfl, ⟨S4, h4, hS4⟩, ht4⟩
        have H4 := Lib.hid (H3.out.next h4 hS4 ht4)
        clear h4 hS4 ht4 x0
        obtain ⟨b', off', e', hbl', x0, -, -⟩ := (HR.out.below (Nat.le_refl _) H4.out.a.below).at_ HX.out
        cases e'
        by_cases hid : (k : Int) % 7 = dr % 7
        · have t5 : ((k : Int) % 7 != dr % 7) = false := by simp [hid]
          have HE := Lib.hid (oth_put_not (m := m) (x := (v + 15, (k : Int))) hid)
          clear hid
          go_wp2
          go_roundw
          case rel => exact ⟨k + 1, S4, Sb, _, by omega, HN.out, by go_num, by rw [HE.out]; exact H4.out⟩
          case measure => simp [intOf]; omega
        · have t5 : ((k : Int) % 7 != dr % 7) = true := by simp [hid]
          have HE := Lib.hid (oth_put (m := m) (x := (v + 15, (k : Int))) H3.out.a.whl.good.srt hid)
          have hol := oth_len m (dr % 7)
          have KP2 := Lib.hid (has_fill (k : Int) v 20 5 (by decide) (by decide) (by decide) v0 v1 (oth_ids HF.out.fresh) (by omega) H4.out.b)
          rw [show (20 - 5 : Int) = 15 from rfl] at KP2
          clear hid
          go_wp2_with (fail)
          with_reducible refine KP2.out.mono ?_
          rintro e w5 ⟨rfl, ⟨S5, h5, hS5⟩, ht5⟩
          have H5 := Lib.hid (H4.out.flip.next h5 hS5 ht5).flip
          clear h5 hS5 ht5 x0
          go_wp2
          go_roundw
          case rel => exact ⟨k + 1, S4, S5, _, by omega, HN.out, by go_num, by rw [HE.out]; exact H5.out⟩
          case measure => simp [intOf]; omega
      · have t4 : decide ((k : Int) < (l.length : Int)) = false := by simp; omega
        have t4' : decide (k < l.length) = false := by simp; omega
        obtain rfl : k = l.length := by omega
        have HL0 := Lib.hid (H3.out.eqA (left_zero (d := dr % 7) HF.out).symm)
        clear H3
        go_wp2
        go_loopw [12] (fun i W => DropRel l.length (dr % 7) m w pa pb Sb i W) (fun i _ => l.length - (intOf i).toNat)
        case atStart => exact ⟨0, _, by omega, rfl, HL0.out⟩
        case round =>
          obtain ⟨j, Sj, hj, rfl, hh⟩ := hrel
          have H4 := Lib.hid hh
          clear hh HL0
          by_cases hjl : j < l.length
          · have t6 : decide ((j : Int) < (l.length : Int)) = true := by simp; omega
            by_cases hid : (j : Int) % 7 = dr % 7
            · have t7 : ((j : Int) % 7 == dr % 7) = true := by simp [hid]
              have KD := has_drop (j : Int) H4.out.a
              rw [decide_eq_true (left_in HF.out hjl), left_drop hid] at KD
              have HKD := Lib.hid KD
              clear KD hid
              go_wp2_with (fail)
              with_reducible refine HKD.out.mono ?_
              rintro e w5 ⟨rfl, ⟨S5, h5, hS5⟩, ht5⟩
              have H5 := Lib.hid (H4.out.next h5 hS5 ht5)
              clear h5 hS5 ht5
              go_wp2
              go_roundw
              case rel => exact ⟨j + 1, S5, by omega, by go_num, H5.out⟩
              case measure => simp [intOf]; omega
            · have t7 : ((j : Int) % 7 == dr % 7) = false := by simp [hid]
              have HE := Lib.hid (left_keep (m := m) hid)
              clear hid
              go_wp2
              go_roundw
              case rel => exact ⟨j + 1, Sj, by omega, by go_num, H4.out.eqA HE.out⟩
              case measure => simp [intOf]; omega
          · have t6 : decide ((j : Int) < (l.length : Int)) = false := by simp; omega
            have t6' : decide (j < l.length) = false := by simp; omega
            obtain rfl : j = l.length := by omega
            have H5 := Lib.hid (H4.out.eqA (left_all HF.out))
            clear H4
            have HM : Hid (∀ x ∈ oth m (dr % 7), x ∈ m) := fun x hx => (List.mem_filter.1 hx).1
            generalize oth m (dr % 7) = M at H5 HM
            obtain ⟨n, hn⟩ : ∃ n, n = (due M t).length := ⟨_, rfl⟩
            obtain ⟨q, hq⟩ : ∃ q, q = (stay M t).length := ⟨_, rfl⟩
            have hnq : n + q ≤ 200 := by
              have h1 := due_stay_len M t
              have h2 := H5.out.a.whl.len
              omega
            have HN := Lib.hid hn.symm
            have HQ := Lib.hid hq.symm
            clear hn hq
            have KA := Lib.hid (has_pro n t HN.out ht1 (by omega) H5.out.a)
            go_wp2_with (fail)
            with_reducible refine KA.out.mono ?_
            rintro e w6 ⟨A6, c6, rfl, h6, ht6, hc6, hk6, hf6, -⟩
            have H6 := Lib.hid (H5.out.next h6 (fun _ hk => .inl hk) ht6)
            have HK6 := Lib.hid hk6
            have HF6 := Lib.hid (show ∀ x, A6 = some x → ¬ Sb x.block from fun x hx hs => by
              have h1 := hf6 x hx
              have h2 := (H5.out.b.inS _ hs).2
              omega)
            clear h6 ht6 hk6 hf6
            have KB := Lib.hid (has_pro n t HN.out ht1 (by omega) H6.out.b)
            go_wp2_with (fail)
            with_reducible refine KB.out.mono ?_
            rintro e w7 ⟨A7, c7, rfl, h7, ht7, hc7, hk7, hf7, -⟩
            have H7 := Lib.hid (H6.out.flip.next h7 (fun _ hk => .inl hk) ht7).flip
            have HK6' := Lib.hid (HK6.out.turns ht7 HF6.out)
            have HK7 := Lib.hid hk7
            clear h7 ht7 hk7 hf7 HK6 HF6
            have KLA := waiting H7.out.a.whl
            have KLB := waiting H7.out.b.whl
            rw [HQ.out] at KLA KLB
            have HLA := Lib.hid KLA
            have HLB := Lib.hid KLB
            clear KLA KLB KA KB
            go_wp2_with (fail)
            with_reducible refine HLA.out.mono ?_
            rintro e w9 ⟨rfl, rfl⟩
            go_wp2_with (fail)
            with_reducible refine HLB.out.mono ?_
            rintro e w9 ⟨rfl, rfl⟩
            go_wp2
            go_loopw [17] (fun i W => SeeRel n w7 i W) (fun i _ => n - (intOf i).toNat)
            case atStart => exact ⟨0, 0, by omega, rfl, rfl⟩
            case round =>
              obtain ⟨i, dn, hi, rfl, rfl⟩ := hrel
              by_cases hin : i < n
              · have t8 : decide ((i : Int) < (n : Int)) = true := by simp; omega
                have hx : (due M t)[i]? = some ((due M t)[i]'(by rw [HN.out]; exact hin)) := List.getElem?_eq_getElem _
                obtain ⟨b1, o1, rfl, hb1, x0⟩ := HK6'.out.at_ (nums_at hx)
                obtain ⟨b2, o2, rfl, hb2, y0⟩ := HK7.out.at_ (nums_at hx)
                have hmem := due_mem.1 (List.mem_of_getElem? hx)
                obtain ⟨f, hf, hidf, v, hv, hvx⟩ := HF.out.at_ _ (HM.out _ hmem.1)
                have hle := hmem.2
                rw [hvx] at hle
                rw [hidf] at x0 y0
                obtain ⟨b3, o3, rfl, hb3, z0, v0, v1⟩ := (HR.out.below (Nat.le_refl _) H7.out.a.below).at_ hv
                clear hx hmem hidf hvx hv
                have t9 : decide (t < v + 15) = false := by simp; omega
                go_wp2
                go_quiet (fail)
                go_wp2
                go_roundw
                case rel => first | exact ⟨i + 1, _, by omega, by go_num, rfl⟩ | exact ⟨i + 1, _, by omega, by go_num, World.drewN_drewN _ _ _⟩
                case measure => simp [intOf]; omega
              · have t8 : decide ((i : Int) < (n : Int)) = false := by simp; omega
                have t8' : decide (i < n) = false := by simp; omega
                go_wp2
                go_ret
                exact ⟨rfl, below_drewN H7.out.a.below _⟩
end Go.Proofs.Ytlodfipiodlgdaa.Drops
