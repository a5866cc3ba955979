/- The walk of the statement on whatever texts that are put, held against a list. -/
import Derived.Test.YtfendnccnhmllaaBo
import Derived.Test.YtfendnccnhmllaaRs
import Derived.Test.YtfendnccnhmllaaNames
namespace Go.Proofs.Ytfendnccnhmllaa.Model
open Go.RowKit

def Rel (w : World) (p room N : Nat) (m i : Value) (W : World) : Prop :=
  ∃ (k n c : Nat) (A : Option Addr) (xs : List ByteArray), k ≤ N ∧ n ≤ k ∧ i = .int .i64 (k : Int) ∧ m = .slice A n c ∧ Both w p room xs A n c xs W
def FindRel (w : World) (p room n c : Nat) (A : Option Addr) (xs : List ByteArray) (i : Value) (W : World) : Prop :=
  ∃ k : Nat, k ≤ n ∧ i = .int .i64 (k : Int) ∧ Both w p room xs A n c xs W

set_option maxRecDepth 100000 in
set_option maxHeartbeats 1000000 in
theorem out (r : Int) (l : List ByteArray) (a : Option Addr) (cap : Nat) (ask : ByteArray) (w : World) (hm : l.length ≤ maxLen) (hr : Reads w a l) (hroom : r < 1 ∨ 256 < r) : Calls Try.prog 3 #[.int .i64 r, .slice a l.length cap, .string ask] w (Woke w) := by
  have HR := Lib.hid hr
  have HM := Lib.hid hm
  have HRM := Lib.hid hroom
  clear hr hm
  go_enter Try.func3, Try.ntmps3
  go_wp2_with (fail)
  refine (awake _).mono ?_
  rintro e w1 ⟨rfl, hb⟩
  go_wp2_with (fail)
  with_reducible refine (few l a cap HM.out (HR.out.below (Nat.le_refl _) hb)).mono ?_
  rintro e w' ⟨b, rfl, rfl, hf⟩
  clear hf
  cases b with
  | false =>
    go_wp2_with (fail)
    refine (awake _).mono ?_
    rintro e w2 ⟨rfl, hb2⟩
    go_wp2
    go_ret
    exact ⟨rfl, hb.trans (hb2.mono hb.size)⟩
  | true =>
    by_cases h6 : 60 < ask.size
    · have t1 : decide ((60 : Int) < (ask.size : Int)) = true := by simp; omega
      go_wp2_with (fail)
      refine (awake _).mono ?_
      rintro e w2 ⟨rfl, hb2⟩
      go_wp2
      go_ret
      exact ⟨rfl, hb.trans (hb2.mono hb.size)⟩
    · have t1 : decide ((60 : Int) < (ask.size : Int)) = false := by simp; omega
      rcases hroom with h | h
      · have t2 : decide (r < 1) = true := by simp; omega
        go_wp2_with (fail)
        with_reducible refine (new_no r _ HRM.out).mono ?_
        rintro e w' ⟨rfl, rfl⟩
        go_wp2
        go_ret
        exact ⟨rfl, hb⟩
      · have t2 : decide (r < 1) = false := by simp; omega
        have t3 : decide (256 < r) = true := by simp; omega
        go_wp2_with (fail)
        with_reducible refine (new_no r _ HRM.out).mono ?_
        rintro e w' ⟨rfl, rfl⟩
        go_wp2
        go_ret
        exact ⟨rfl, hb⟩

set_option maxRecDepth 100000 in
set_option maxHeartbeats 8000000 in
theorem core (room : Nat) (l : List ByteArray) (a : Option Addr) (cap : Nat) (ask : ByteArray) (w : World) (hm : l.length ≤ maxLen) (hr : Reads w a l) (r1 : 1 ≤ room) (r2 : room ≤ 256) : Calls Try.prog 3 #[.int .i64 (room : Int), .slice a l.length cap, .string ask] w (Woke w) := by
  have HR := Lib.hid hr
  have HM := Lib.hid hm
  clear hr hm
  have t2 : decide ((room : Int) < 1) = false := by simp; omega
  have t3 : decide ((256 : Int) < (room : Int)) = false := by simp; omega
  go_enter Try.func3, Try.ntmps3
  go_wp2_with (fail)
  refine (awake _).mono ?_
  rintro e w1 ⟨rfl, hb⟩
  go_wp2_with (fail)
  with_reducible refine (few l a cap HM.out (HR.out.below (Nat.le_refl _) hb)).mono ?_
  rintro e w' ⟨b, rfl, rfl, hf⟩
  cases b with
  | false =>
    clear hf
    go_wp2_with (fail)
    refine (awake _).mono ?_
    rintro e w2 ⟨rfl, hb2⟩
    go_wp2
    go_ret
    exact ⟨rfl, hb.trans (hb2.mono hb.size)⟩
  | true =>
    obtain ⟨hl, _⟩ := hf rfl
    clear hf
    by_cases h6 : 60 < ask.size
    · have t1 : decide ((60 : Int) < (ask.size : Int)) = true := by simp; omega
      go_wp2_with (fail)
      refine (awake _).mono ?_
      rintro e w2 ⟨rfl, hb2⟩
      go_wp2
      go_ret
      exact ⟨rfl, hb.trans (hb2.mono hb.size)⟩
    · have t1 : decide ((60 : Int) < (ask.size : Int)) = false := by simp; omega
      go_wp2_with (fail)
      with_reducible refine (has_new room hb r1 r2).mono ?_
      rintro e w2 ⟨p, rfl, hh⟩
      have H2 := Lib.hid (Both.new hh)
      clear hh
      go_wp2
      go_loopw [9, 10] (fun m i W => Rel w p room l.length m i W) (fun _ i _ => l.length - (intOf i).toNat)
      case atStart => exact ⟨0, 0, 0, none, [], by omega, by omega, rfl, rfl, H2.out⟩
      case round =>
        obtain ⟨k, n, c, A, xs, hk, hnk, rfl, rfl, hh⟩ := hrel
        have H3 := Lib.hid hh
        clear hh
        have HLEN := Lib.hid H3.out.len.symm
        have hnr : n ≤ room := by have := H3.out.has.fits; have := HLEN.out; omega
        by_cases hlt : k < l.length
        · have t4 : decide ((k : Int) < (l.length : Int)) = true := by simp; omega
          obtain ⟨b2, off, rfl, hbl, hcell⟩ := HR.out (by omega)
          have CX : Hid (∀ W : World, Below w.heap.size w W → W.cell? ⟨b2, off + k, none⟩ = some (.string l[k])) := fun W hW => (hW.cell (p := ⟨b2, off + k, none⟩) hbl).trans (hcell k _ (List.getElem?_eq_getElem hlt))
          clear hcell
          generalize l[k] = x at CX
          have cx := CX.out _ H3.out.below
          cases hn : nm x with
          | false =>
            have HN := Lib.hid hn
            clear hn
            go_wp2_with (fail)
            with_reducible refine (both_put_arg x HN.out H3.out).mono ?_
            rintro e w4 ⟨rfl, hh⟩
            have H4 := Lib.hid hh
            clear hh
            have cx4 := CX.out _ H4.out.below
            go_wp2_with (fail)
            with_reducible refine (ref_named_is HN.out _).mono ?_
            rintro e w' ⟨rfl, rfl⟩
            go_wp2
            go_roundw
            case rel => exact ⟨k + 1, n, c, A, xs, by omega, by omega, by go_num, rfl, H4.out⟩
            case measure => simp [intOf]; omega
          | true =>
            have HN := Lib.hid hn
            clear hn
            by_cases hx : x ∈ xs
            · obtain ⟨q, hq⟩ := List.getElem?_of_mem hx
              have HX := Lib.hid hx
              have HQ := Lib.hid hq
              clear hx hq
              go_wp2_with (fail)
              with_reducible refine (both_put_twice x HN.out HX.out H3.out).mono ?_
              rintro e w4 ⟨rfl, hh⟩
              have H4 := Lib.hid hh
              clear hh
              have cx4 := CX.out _ H4.out.below
              go_wp2_with (fail)
              with_reducible refine (ref_named_is HN.out _).mono ?_
              rintro e w' ⟨rfl, rfl⟩
              have HF := Lib.hid (ref_find_yes xs x q A c (by rw [HLEN.out]; omega) H4.out.reads H4.out.has.nodup HQ.out)
              rw [HLEN.out] at HF
              have t5 : decide ((0 : Int) ≤ (q : Int)) = true := by simp
              go_wp2_with (fail)
              with_reducible refine HF.out.mono ?_
              rintro e w' ⟨rfl, rfl⟩
              go_wp2
              go_roundw
              case rel => exact ⟨k + 1, n, c, A, xs, by omega, by omega, by go_num, rfl, H4.out⟩
              case measure => simp [intOf]; omega
            · have HX := Lib.hid hx
              clear hx
              by_cases hfull : n = room
              · subst hfull
                go_wp2_with (fail)
                with_reducible refine (both_put_full x HN.out HX.out HLEN.out H3.out).mono ?_
                rintro e w4 ⟨rfl, hh⟩
                have H4 := Lib.hid hh
                clear hh
                have cx4 := CX.out _ H4.out.below
                go_wp2_with (fail)
                with_reducible refine (ref_named_is HN.out _).mono ?_
                rintro e w' ⟨rfl, rfl⟩
                have HF := Lib.hid (ref_find_no xs x A c (by rw [HLEN.out]; omega) H4.out.reads HX.out)
                rw [HLEN.out] at HF
                go_wp2_with (fail)
                with_reducible refine HF.out.mono ?_
                rintro e w' ⟨rfl, rfl⟩
                go_wp2
                go_roundw
                case rel => exact ⟨k + 1, n, c, A, xs, by omega, by omega, by go_num, rfl, H4.out⟩
                case measure => simp [intOf]; omega
              · have t5 : ((n : Int) == (room : Int)) = false := by rw [beq_eq_false_iff_ne]; omega
                have HP := Lib.hid (both_put x HN.out HX.out (by rw [HLEN.out]; omega) H3.out)
                rw [HLEN.out] at HP
                go_wp2_with (fail)
                with_reducible refine HP.out.mono ?_
                rintro e w4 ⟨rfl, hh⟩
                have H4 := Lib.hid hh
                clear hh
                have cx4 := CX.out _ H4.out.below
                go_wp2_with (fail)
                with_reducible refine (ref_named_is HN.out _).mono ?_
                rintro e w' ⟨rfl, rfl⟩
                have HF := Lib.hid (ref_find_no xs x A c (by rw [HLEN.out]; omega) H4.out.reads HX.out)
                rw [HLEN.out] at HF
                go_wp2_with (fail)
                with_reducible refine HF.out.mono ?_
                rintro e w' ⟨rfl, rfl⟩
                have hs4 := H4.out.below.size
                have OWN : Hid (w4.ownsRow w.heap.size 9 1 (.slice A n c) n (xs.map .string)) := let ⟨_, _, h2, _⟩ := H4.out; h2
                have RX : Hid (Reads (w4.alloc (.cells #[.string x] 9)) (some ⟨w4.heap.size, 0, none⟩) [x]) := reads_one (Lies.made w4 9 #[.string x])
                go_wp2_with (
                  at_builtin
                  refine wpList_append_any rfl _ _ rfl w.heap.size n 1 1 (n + 1) (.slice A n c) xs [x] (some ⟨w4.heap.size, 0, none⟩) rfl rfl (OWN.out.alloc _) rfl RX.out rfl (by omega) (by simp; omega) ?_
                  intro A5 c5 w5 hl5
                  have H5 := Lib.hid (H4.out.longer rfl hl5)
                  clear hl5)
                go_roundw
                case rel => exact ⟨k + 1, n + 1, c5, A5, xs ++ [x], by omega, by omega, by go_num, rfl, H5.out⟩
                case measure => simp [intOf]; omega
        · have t4 : decide ((k : Int) < (l.length : Int)) = false := by simp; omega
          have t4' : decide (k < l.length) = false := by simp; omega
          go_wp2
          go_loopw [14] (fun i W => FindRel w p room n c A xs i W) (fun i _ => n - (intOf i).toNat)
          case atStart => exact ⟨0, by omega, rfl, H3.out⟩
          case round =>
            obtain ⟨j, hj, rfl, hh⟩ := hrel
            have H4 := Lib.hid hh
            clear hh
            by_cases hjn : j < n
            · have t5 : decide ((j : Int) < (n : Int)) = true := by simp; omega
              have hx : xs[j]? = some (xs[j]'(by rw [HLEN.out]; exact hjn)) := List.getElem?_eq_getElem _
              obtain ⟨b2, off, rfl, hbl, hcell⟩ := H4.out.reads (by rw [HLEN.out]; omega)
              have cx := hcell j _ hx
              have HX := Lib.hid hx
              clear hcell hx
              generalize xs[j]'(by rw [HLEN.out]; exact hjn) = x at cx HX
              go_wp2_with (fail)
              with_reducible refine (both_find x j HX.out H4.out).mono ?_
              rintro e w5 ⟨rfl, hh⟩
              have H5 := Lib.hid hh
              clear hh
              have cx5 : w5.cell? ⟨b2, off + j, none⟩ = some (.string x) := by
                obtain ⟨b', o', e, _, hc⟩ := H5.out.reads (by rw [HLEN.out]; omega)
                cases e
                exact hc j x HX.out
              go_wp2_with (fail)
              with_reducible refine (both_name j x HX.out H5.out).mono ?_
              rintro e w' ⟨rfl, rfl⟩
              go_wp2
              go_roundw
              case rel => exact ⟨j + 1, by omega, by go_num, H5.out⟩
              case measure => simp [intOf]; omega
            · have t5 : decide ((j : Int) < (n : Int)) = false := by simp; omega
              have t5' : decide (j < n) = false := by simp; omega
              by_cases hask : ask ∈ xs
              · obtain ⟨q, hq⟩ := List.getElem?_of_mem hask
                have HQ := Lib.hid hq
                clear hq hask
                have t6 : decide ((0 : Int) ≤ (q : Int)) = true := by simp
                have HF := Lib.hid (ref_find_yes xs ask q A c (by rw [HLEN.out]; omega) H4.out.reads H4.out.has.nodup HQ.out)
                rw [HLEN.out] at HF
                go_wp2_with (fail)
                with_reducible refine HF.out.mono ?_
                rintro e w' ⟨rfl, rfl⟩
                go_wp2_with (fail)
                with_reducible refine (both_find ask q HQ.out H4.out).mono ?_
                rintro e w5 ⟨rfl, hh⟩
                have H5 := Lib.hid hh
                clear hh
                go_wp2_with (fail)
                with_reducible refine (both_name_no (n : Int) (.inr (by have := HLEN.out; omega)) H5.out).mono ?_
                rintro e w' ⟨rfl, rfl⟩
                go_wp2_with (fail)
                with_reducible refine (both_name_no (-1) (.inl (by omega)) H5.out).mono ?_
                rintro e w' ⟨rfl, rfl⟩
                go_wp2_with (fail)
                with_reducible refine (has_sorted n HLEN.out H5.out.has).mono ?_
                rintro e w8 ⟨b8, c8, rfl, ho8, _, hb8⟩
                have H8 := Lib.hid (H5.out.more hb8)
                have R8 : Hid (Reads w8 (some ⟨b8, 0, none⟩) (srt xs)) := by
                  obtain ⟨A', c', e1, _, hr⟩ := Reads.own ho8
                  cases e1
                  exact hr
                clear ho8 hb8
                have RS := Lib.hid (ref_sorted xs A c (by rw [HLEN.out]; omega) H8.out.reads)
                rw [HLEN.out] at RS
                go_wp2_with (fail)
                with_reducible refine RS.out.mono ?_
                rintro e w9 ⟨A9, c9, rfl, hr9, hb9⟩
                have R8' := Lib.hid (R8.out.below (Nat.le_refl _) hb9)
                have B9 := Lib.hid (H8.out.below.trans (hb9.mono H8.out.below.size))
                have SM := Lib.hid (ref_same (srt xs) (some ⟨b8, 0, none⟩) A9 c8 c9 (by rw [length_srt, HLEN.out]; omega) R8'.out hr9)
                rw [length_srt] at SM
                clear hr9 hb9
                rw [HLEN.out] at SM ⊢
                go_wp2_with (fail)
                with_reducible refine SM.out.mono ?_
                rintro e w' ⟨rfl, m, rfl⟩
                go_wp2
                go_ret
                exact ⟨rfl, below_drewN B9.out m⟩
              · have HA := Lib.hid hask
                clear hask
                have HF := Lib.hid (ref_find_no xs ask A c (by rw [HLEN.out]; omega) H4.out.reads HA.out)
                rw [HLEN.out] at HF
                go_wp2_with (fail)
                with_reducible refine HF.out.mono ?_
                rintro e w' ⟨rfl, rfl⟩
                go_wp2_with (fail)
                with_reducible refine (both_find_no ask HA.out H4.out).mono ?_
                rintro e w5 ⟨rfl, hh⟩
                have H5 := Lib.hid hh
                clear hh
                go_wp2_with (fail)
                with_reducible refine (both_name_no (n : Int) (.inr (by have := HLEN.out; omega)) H5.out).mono ?_
                rintro e w' ⟨rfl, rfl⟩
                go_wp2_with (fail)
                with_reducible refine (both_name_no (-1) (.inl (by omega)) H5.out).mono ?_
                rintro e w' ⟨rfl, rfl⟩
                go_wp2_with (fail)
                with_reducible refine (has_sorted n HLEN.out H5.out.has).mono ?_
                rintro e w8 ⟨b8, c8, rfl, ho8, _, hb8⟩
                have H8 := Lib.hid (H5.out.more hb8)
                have R8 : Hid (Reads w8 (some ⟨b8, 0, none⟩) (srt xs)) := by
                  obtain ⟨A', c', e1, _, hr⟩ := Reads.own ho8
                  cases e1
                  exact hr
                clear ho8 hb8
                have RS := Lib.hid (ref_sorted xs A c (by rw [HLEN.out]; omega) H8.out.reads)
                rw [HLEN.out] at RS
                go_wp2_with (fail)
                with_reducible refine RS.out.mono ?_
                rintro e w9 ⟨A9, c9, rfl, hr9, hb9⟩
                have R8' := Lib.hid (R8.out.below (Nat.le_refl _) hb9)
                have B9 := Lib.hid (H8.out.below.trans (hb9.mono H8.out.below.size))
                have SM := Lib.hid (ref_same (srt xs) (some ⟨b8, 0, none⟩) A9 c8 c9 (by rw [length_srt, HLEN.out]; omega) R8'.out hr9)
                rw [length_srt] at SM
                clear hr9 hb9
                rw [HLEN.out] at SM ⊢
                go_wp2_with (fail)
                with_reducible refine SM.out.mono ?_
                rintro e w' ⟨rfl, m, rfl⟩
                go_wp2
                go_ret
                exact ⟨rfl, below_drewN B9.out m⟩
end Go.Proofs.Ytfendnccnhmllaa.Model
