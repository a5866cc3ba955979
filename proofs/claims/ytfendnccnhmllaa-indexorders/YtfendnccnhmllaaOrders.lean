/- The walk of the statement on names in whichever order. -/
import Derived.Test.YtfendnccnhmllaaTwo
import Derived.Test.YtfendnccnhmllaaNames
namespace Go.Proofs.Ytfendnccnhmllaa.Orders
open Go.RowKit

def CountRel (l : List ByteArray) (w : World) (n i : Value) (W : World) : Prop := ∃ k c : Nat, k ≤ l.length ∧ c ≤ 256 ∧ n = .int .i64 (c : Int) ∧ i = .int .i64 (k : Int) ∧ W = w ∧ c = (l.take k).countP nm
def PutRel (l r : List ByteArray) (w : World) (p q : Nat) (i : Value) (W : World) : Prop := ∃ (k : Nat) (xs ys : List ByteArray), k ≤ l.length ∧ i = .int .i64 (k : Int) ∧ Of (l.take k) xs ∧ Of (r.take k) ys ∧ Two w p xs q ys W
def FindRel (n : Nat) (w : World) (p q : Nat) (xs ys : List ByteArray) (i : Value) (W : World) : Prop := ∃ k : Nat, k ≤ n ∧ i = .int .i64 (k : Int) ∧ Two w p xs q ys W

theorem count_next {l : List ByteArray} {k : Nat} {s : ByteArray} (h : l[k]? = some s) : (l.take (k + 1)).countP nm = (l.take k).countP nm + (if nm s then 1 else 0) := by
  rw [List.take_add_one, h, List.countP_append]
  simp [List.countP_cons]

set_option maxRecDepth 100000 in
set_option maxHeartbeats 4000000 in
theorem core (l : List ByteArray) (a : Option Addr) (cap t : Nat) (w : World) (hm : l.length ≤ maxLen) (hr : Reads w a l) (ht : t ≤ 255) : Calls Try.prog 6 #[.slice a l.length cap, .int .u8 (t : Int)] w (Woke w) := by
  have HR := Lib.hid hr
  have HM := Lib.hid hm
  clear hr hm
  go_enter Try.func6, Try.ntmps6
  go_wp2_with (fail)
  refine (awake _).mono ?_
  rintro e w1 ⟨rfl, hb⟩
  go_wp2_with (fail)
  with_reducible refine (few l a cap HM.out (HR.out.below (Nat.le_refl _) hb)).mono ?_
  rintro e w' ⟨b, rfl, rfl, hf⟩
  cases b with
  | false =>
    clear hf
    go_wp2_with (fail)
    refine (awake _).mono ?_
    rintro e w2 ⟨rfl, hb2⟩
    go_wp2
    go_ret
    exact ⟨rfl, hb.trans (hb2.mono hb.size)⟩
  | true =>
    obtain ⟨hl, _⟩ := hf rfl
    clear hf
    by_cases h0 : l.length = 0
    · have t0 : ((l.length : Int) == 0) = true := by rw [beq_iff_eq]; omega
      go_wp2_with (fail)
      refine (awake _).mono ?_
      rintro e w2 ⟨rfl, hb2⟩
      go_wp2
      go_ret
      exact ⟨rfl, hb.trans (hb2.mono hb.size)⟩
    · have t0 : ((l.length : Int) == 0) = false := by rw [beq_eq_false_iff_ne]; omega
      go_wp2_with (fail)
      refine (has_new 256 hb (by omega) (by omega)).mono ?_
      rintro e w2 ⟨p, rfl, hh⟩
      have H2 := Lib.hid hh
      clear hh
      go_wp2_with (fail)
      refine (two_new H2.out.below H2.out).mono ?_
      rintro e w3 ⟨q, rfl, hh⟩
      have H3 := Lib.hid hh
      clear hh
      have h0' : ¬ ((l.length : Int) = 0) := by omega
      obtain ⟨u, hu⟩ : ∃ u, u = t % l.length := ⟨_, rfl⟩
      have hul : u < l.length := by rw [hu]; exact Nat.mod_lt _ (by omega)
      have hq : (t : Int) % (l.length : Int) = (u : Int) := by rw [hu, Int.natCast_emod]
      have HQ := Lib.hid hq
      have HU := Lib.hid hu
      clear hu hq
      go_wp2
      rw [HQ.out]
      go_loopw [10, 11] (fun n i W => CountRel l w3 n i W) (fun _ i _ => l.length - (intOf i).toNat)
      case atStart => exact ⟨0, 0, by omega, by omega, rfl, rfl, rfl, rfl⟩
      case round =>
        obtain ⟨k, c, hk, hc, rfl, rfl, rfl, hcount⟩ := hrel
        have HC := Lib.hid hcount
        clear hcount
        by_cases hlt : k < l.length
        · have t2 : decide ((k : Int) < (l.length : Int)) = true := by simp; omega
          by_cases hc2 : c < 256
          · have t3 : decide ((c : Int) < 256) = true := by simp; omega
            obtain ⟨b2, off, rfl, _, hcell⟩ := (HR.out.below (Nat.le_refl _) H3.out.below) (by omega)
            have hx : l[k]? = some l[k] := List.getElem?_eq_getElem hlt
            have ck := hcell k _ hx
            have HX := Lib.hid (count_next hx)
            clear hcell hx
            generalize l[k] = x at ck HX
            cases hn : nm x with
            | true =>
              have HN := Lib.hid hn
              rw [hn] at HX
              clear hn
              go_wp2_with (fail)
              with_reducible refine (ref_named_is HN.out _).mono ?_
              rintro e w' ⟨rfl, rfl⟩
              go_wp2
              go_roundw
              case rel => exact ⟨k + 1, c + 1, by omega, by omega, by go_num, by go_num, rfl, by rw [HX.out, HC.out]; rfl⟩
              case measure => simp [intOf]; omega
            | false =>
              have HN := Lib.hid hn
              rw [hn] at HX
              clear hn
              go_wp2_with (fail)
              with_reducible refine (ref_named_is HN.out _).mono ?_
              rintro e w' ⟨rfl, rfl⟩
              go_wp2
              go_roundw
              case rel => exact ⟨k + 1, c, by omega, by omega, rfl, by go_num, rfl, by rw [HX.out, HC.out]; rfl⟩
              case measure => simp [intOf]; omega
          · obtain rfl : c = 256 := by omega
            go_wp2
            go_ret
            exact ⟨rfl, H3.out.below⟩
        · have t2 : decide ((k : Int) < (l.length : Int)) = false := by simp; omega
          have t2' : decide (k < l.length) = false := by simp; omega
          obtain rfl : k = l.length := by omega
          by_cases hc2 : c = 256
          · subst hc2
            go_wp2
            go_ret
            exact ⟨rfl, H3.out.below⟩
          · have t3 : ((c : Int) == 256) = false := by rw [beq_eq_false_iff_ne]; omega
            have hcl : l.countP nm ≤ 255 := by have := HC.out; rw [List.take_length] at this; omega
            have HCL := Lib.hid hcl
            have HCR := Lib.hid (show (rot u l).countP nm ≤ 255 by rw [rot_count]; exact hcl)
            have HRL := Lib.hid (rot_length u l (by omega))
            clear hcl
            go_wp2
            go_loopw [12] (fun i W => PutRel l (rot u l) w p q i W) (fun i _ => l.length - (intOf i).toNat)
            case atStart => exact ⟨0, [], [], by omega, rfl, by simpa using Of.nil, by simpa using Of.nil, H3.out⟩
            case round =>
              obtain ⟨j, xs, ys, hj, rfl, hxs, hys, hh⟩ := hrel
              have HXS := Lib.hid hxs
              have HYS := Lib.hid hys
              have H4 := Lib.hid hh
              clear hxs hys hh
              by_cases hjl : j < l.length
              · have t4 : decide ((j : Int) < (l.length : Int)) = true := by simp; omega
                obtain ⟨z, hz⟩ : ∃ z, z = (j + u) % l.length := ⟨_, rfl⟩
                have hzl : z < l.length := by rw [hz]; exact Nat.mod_lt _ (by omega)
                have e1 : ((j : Int) + (u : Int)) % (l.length : Int) = (z : Int) := by rw [hz, Int.natCast_emod, Int.natCast_add]
                have hrz : (rot u l)[j]? = l[z]? := by rw [rot_at u l j hjl hul, hz]
                clear hz
                have hx : l[j]? = some l[j] := List.getElem?_eq_getElem hjl
                have hy : l[z]? = some l[z] := List.getElem?_eq_getElem hzl
                obtain ⟨b2, off, rfl, hbl, hcell⟩ := HR.out (by omega)
                have CX : Hid (∀ W : World, Below w.heap.size w W → W.cell? ⟨b2, off + j, none⟩ = some (.string l[j])) := fun W hW => (hW.cell (p := ⟨b2, off + j, none⟩) hbl).trans (hcell j _ hx)
                have CY : Hid (∀ W : World, Below w.heap.size w W → W.cell? ⟨b2, off + z, none⟩ = some (.string l[z])) := fun W hW => (hW.cell (p := ⟨b2, off + z, none⟩) hbl).trans (hcell z _ hy)
                have HX2 := Lib.hid (fun h1 => HXS.out.step hx h1)
                have HY2 := Lib.hid (fun h1 => HYS.out.step (hrz.trans hy) h1)
                clear hcell hrz hx hy
                generalize l[j] = x at CX HX2
                generalize l[z] = y at CY HY2
                have cx := CX.out _ H4.out.below
                go_wp2_with (fail)
                with_reducible refine (two_put x H4.out).mono ?_
                rintro e w5 ⟨v5, rfl, hh⟩
                have H5 := Lib.hid hh.swap
                clear hh
                have cy := CY.out _ H5.out.below
                go_wp2_with (fail)
                with_reducible refine (two_put y H5.out).mono ?_
                rintro e w6 ⟨v6, rfl, hh⟩
                have H6 := Lib.hid hh.swap
                clear hh
                go_wp2
                go_roundw
                case rel => exact ⟨j + 1, _, _, by omega, by go_num, HX2.out HCL.out, HY2.out HCR.out, H6.out⟩
                case measure => simp [intOf]; omega
              · have t4 : decide ((j : Int) < (l.length : Int)) = false := by simp; omega
                have t4' : decide (j < l.length) = false := by simp; omega
                have HX3 : Hid (∀ a, a ∈ xs ↔ nm a = true ∧ a ∈ l) := fun a => by have := HXS.out.2 a; rw [List.take_of_length_le (by omega)] at this; exact this
                have HY3 : Hid (∀ a, a ∈ ys ↔ nm a = true ∧ a ∈ l) := fun a => by have := HYS.out.2 a; rw [List.take_of_length_le (by rw [HRL.out]; omega), rot_mem] at this; exact this
                have HS : Hid (srt xs = srt ys) := srt_ext H4.out.nodup H4.out.swap.nodup (fun a => (HX3.out a).trans (HY3.out a).symm)
                go_wp2
                go_loopw [13] (fun i W => FindRel l.length w p q xs ys i W) (fun i _ => l.length - (intOf i).toNat)
                case atStart => exact ⟨0, by omega, rfl, H4.out⟩
                case round =>
                  obtain ⟨f, hf, rfl, hh⟩ := hrel
                  have H7 := Lib.hid hh
                  clear hh
                  by_cases hfl : f < l.length
                  · have t5 : decide ((f : Int) < (l.length : Int)) = true := by simp; omega
                    have hx : l[f]? = some l[f] := List.getElem?_eq_getElem hfl
                    obtain ⟨b2, off, rfl, hbl, hcell⟩ := HR.out (by omega)
                    have CX : Hid (∀ W : World, Below w.heap.size w W → W.cell? ⟨b2, off + f, none⟩ = some (.string l[f])) := fun W hW => (hW.cell (p := ⟨b2, off + f, none⟩) hbl).trans (hcell f _ hx)
                    have HMX : Hid (nm l[f] = true ↔ l[f] ∈ xs) := by rw [HX3.out]; exact ⟨fun h => ⟨h, List.mem_of_getElem? hx⟩, fun h => h.1⟩
                    have HMY : Hid (nm l[f] = true ↔ l[f] ∈ ys) := by rw [HY3.out]; exact ⟨fun h => ⟨h, List.mem_of_getElem? hx⟩, fun h => h.1⟩
                    clear hcell hx
                    generalize l[f] = x at CX HMX HMY
                    have cx := CX.out _ H7.out.below
                    obtain ⟨bb, hbb⟩ : ∃ bb, nm x = bb := ⟨_, rfl⟩
                    rw [hbb] at HMX HMY
                    have HBB := Lib.hid hbb
                    clear hbb
                    go_wp2_with (fail)
                    with_reducible refine (two_find x bb HMX.out H7.out).mono ?_
                    rintro e w8 ⟨v8, rfl, hh⟩
                    have H8 := Lib.hid hh.swap
                    clear hh
                    have cx8 := CX.out _ H8.out.below
                    go_wp2_with (fail)
                    with_reducible refine (two_find x bb HMY.out H8.out).mono ?_
                    rintro e w9 ⟨v9, rfl, hh⟩
                    have H9 := Lib.hid hh.swap
                    clear hh
                    have cx9 := CX.out _ H9.out.below
                    go_wp2_with (fail)
                    with_reducible refine (ref_named_is HBB.out _).mono ?_
                    rintro e w' ⟨rfl, rfl⟩
                    go_wp2
                    go_roundw
                    case rel => exact ⟨f + 1, by omega, by go_num, H9.out⟩
                    case measure => simp [intOf]; omega
                  · have t5 : decide ((f : Int) < (l.length : Int)) = false := by simp; omega
                    have t5' : decide (f < l.length) = false := by simp; omega
                    obtain ⟨n, hn⟩ : ∃ n, (srt xs).length = n := ⟨_, rfl⟩
                    have HN := Lib.hid hn
                    have hn2 : n ≤ 256 := by rw [← hn, length_srt]; exact H7.out.fits
                    clear hn
                    go_wp2_with (fail)
                    with_reducible refine (two_sorted n (srt xs) rfl HN.out H7.out).mono ?_
                    rintro e w8 ⟨b8, c8, rfl, hr8, hh, _⟩
                    have R8 := Lib.hid hr8
                    have H8 := Lib.hid hh.swap
                    clear hr8 hh
                    go_wp2_with (fail)
                    with_reducible refine (two_sorted n (srt xs) HS.out.symm HN.out H8.out).mono ?_
                    rintro e w9 ⟨b9, c9, rfl, hr9, hh, hb9⟩
                    have R8' := Lib.hid (R8.out.below (Nat.le_refl _) hb9)
                    have B9 := Lib.hid hh.below
                    have SM := Lib.hid (ref_same (srt xs) (some ⟨b8, 0, none⟩) (some ⟨b9, 0, none⟩) c8 c9 (by rw [HN.out]; omega) R8'.out hr9)
                    rw [HN.out] at SM
                    clear hr9 hh hb9
                    go_wp2_with (fail)
                    with_reducible refine SM.out.mono ?_
                    rintro e w' ⟨rfl, m, rfl⟩
                    go_wp2
                    go_ret
                    exact ⟨rfl, below_drewN B9.out m⟩
end Go.Proofs.Ytfendnccnhmllaa.Orders
