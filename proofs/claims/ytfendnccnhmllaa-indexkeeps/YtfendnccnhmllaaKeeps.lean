/- The walk of the statement that what a table answers is new memory. -/
import Derived.Test.YtfendnccnhmllaaAp
namespace Go.Proofs.Ytfendnccnhmllaa
open Go.RowKit

/-- Is s among xs? -/
def among (xs : List ByteArray) (s : ByteArray) : Bool := xs.any fun y => y.toList == s.toList
theorem among_iff (xs : List ByteArray) (s : ByteArray) : among xs s = true ↔ s ∈ xs := by
  simp only [among, List.any_eq_true, beq_iff_eq]
  constructor
  · rintro ⟨y, hy, e⟩
    rw [← toList_inj e]; exact hy
  · exact fun h => ⟨s, h, rfl⟩
/-- The names behind a Put of s, whatever it answers. -/
def next (room : Nat) (xs : List ByteArray) (s : ByteArray) : List ByteArray := if nm s = true ∧ ¬ among xs s = true ∧ xs.length < room then xs ++ [s] else xs
theorem next_yes {room : Nat} {xs : List ByteArray} {s : ByteArray} (h : nm s = true ∧ s ∉ xs ∧ xs.length < room) : next room xs s = xs ++ [s] := by
  unfold next
  exact if_pos ⟨h.1, fun e => h.2.1 ((among_iff xs s).1 e), h.2.2⟩
theorem next_no {room : Nat} {xs : List ByteArray} {s : ByteArray} (h : ¬ (nm s = true ∧ s ∉ xs ∧ xs.length < room)) : next room xs s = xs := by
  unfold next
  exact if_neg (fun e => h ⟨e.1, fun hm => e.2.1 ((among_iff xs s).2 hm), e.2.2⟩)
/-- Whatever a Put answers. -/
def PutAny (w0 : World) (p room : Nat) (xs : List ByteArray) (s : ByteArray) (e : Ending) (W' : World) : Prop := ∃ v, e = .returned v ∧ Has w0 p room (next room xs s) W'
theorem has_put_any {w0 W : World} {p room : Nat} {xs : List ByteArray} (s : ByteArray) (h : Has w0 p room xs W) : Calls Try.prog 11 #[.pointer (some ⟨p, 0, none⟩), .string s] W (PutAny w0 p room xs s) := by
  cases hn : nm s with
  | false =>
    refine (has_put_arg s hn h).mono fun e W' hw => ⟨_, hw.1, ?_⟩
    rw [next_no (by simp [hn])]; exact hw.2
  | true =>
    by_cases hx : s ∈ xs
    · refine (has_put_twice s hn hx h).mono fun e W' hw => ⟨_, hw.1, ?_⟩
      rw [next_no (by simp [hx])]; exact hw.2
    · by_cases hl : xs.length < room
      · refine (has_put s hn hx hl h).mono fun e W' hw => ⟨_, hw.1, ?_⟩
        rw [next_yes ⟨hn, hx, hl⟩]; exact hw.2
      · refine (has_put_full s hn hx (by have := h.fits; omega) h).mono fun e W' hw => ⟨_, hw.1, ?_⟩
        rw [next_no (by omega)]; exact hw.2

theorem own_at {b o n c k : Nat} (h : (Value.slice (some ⟨b, o, none⟩) n c).ownBlock = some k) : b = k := by simpa [Value.ownBlock] using h
namespace Keeps
def PutRel (n : Nat) (w : World) (p : Nat) (i : Value) (W : World) : Prop := ∃ (k : Nat) (xs : List ByteArray), k ≤ n ∧ i = .int .i64 (k : Int) ∧ Has w p 256 xs W
/-- The row at b may have turned; the table, and the row v that keeps its names, haven't. -/
def TurnRel (n : Nat) (xs : List ByteArray) (w : World) (p b cap : Nat) (v : Value) (i : Value) (W : World) : Prop :=
  ∃ (k : Nat) (ys : List Value), k ≤ n ∧ i = .int .i64 (k : Int) ∧ (∃ S, Idx S w.heap.size W p 256 xs ∧ ¬ S b) ∧ Below w.heap.size w W ∧
    W.ownsRow w.heap.size 9 1 (.slice (some ⟨b, 0, none⟩) n cap) n ys ∧ (∀ j, j < n → ∃ z, ys[j]? = some (.string z)) ∧ W.ownsRow w.heap.size 9 1 v n ((srt xs).map .string) ∧ v.ownBlock ≠ some b

theorem own_lower {w : World} {B B' : Nat} {e : TypeId} {size : Nat} {v : Value} {n : Nat} {cs : List Value} (h : w.ownsRow B e size v n cs) (hB : B' ≤ B) : w.ownsRow B' e size v n cs := by
  refine ⟨h.1, ?_⟩
  rcases h.2 with hn | ⟨g, cap, cur, hv, hb, rest⟩
  · exact .inl hn
  · exact .inr ⟨g, cap, cur, hv, Nat.le_trans hB hb, rest⟩

set_option maxRecDepth 100000 in
set_option maxHeartbeats 4000000 in
theorem core (l : List ByteArray) (a : Option Addr) (cap : Nat) (w : World) (hm : l.length ≤ maxLen) (hr : Reads w a l) : Calls Try.prog 5 #[.slice a l.length cap] w (Woke w) := by
  have HR := Lib.hid hr
  have HM := Lib.hid hm
  clear hr hm
  go_enter Try.func5, Try.ntmps5
  go_wp2_with (fail)
  refine (awake _).mono ?_
  rintro e w1 ⟨rfl, hb⟩
  go_wp2_with (fail)
  with_reducible refine (few l a cap HM.out (HR.out.below (Nat.le_refl _) hb)).mono ?_
  rintro e w' ⟨b, rfl, rfl, hf⟩
  cases b with
  | false =>
    clear hf
    go_wp2_with (fail)
    refine (awake _).mono ?_
    rintro e w2 ⟨rfl, hb2⟩
    go_wp2
    go_ret
    exact ⟨rfl, hb.trans (hb2.mono hb.size)⟩
  | true =>
    obtain ⟨hl, _⟩ := hf rfl
    clear hf
    go_wp2_with (fail)
    refine (has_new 256 hb (by omega) (by omega)).mono ?_
    rintro e w2 ⟨p, rfl, hh⟩
    have H2 := Lib.hid hh
    clear hh
    go_wp2
    go_loopw [5] (fun i W => PutRel l.length w p i W) (fun i _ => l.length - (intOf i).toNat)
    case atStart => exact ⟨0, [], by omega, rfl, H2.out⟩
    case round =>
      obtain ⟨k, xs, hk, rfl, hh⟩ := hrel
      have H3 := Lib.hid hh
      clear hh
      by_cases hlt : k < l.length
      · have t2 : decide ((k : Int) < (l.length : Int)) = true := by simp; omega
        obtain ⟨b2, off, rfl, _, hc⟩ := (HR.out.below (Nat.le_refl _) H3.out.below) (by omega)
        have ck := hc k _ (List.getElem?_eq_getElem hlt)
        clear hc
        generalize l[k] = x at ck
        go_wp2_with (fail)
        with_reducible refine (has_put_any x H3.out).mono ?_
        rintro e w4 ⟨v, rfl, h4⟩
        have H4 := Lib.hid h4
        clear h4
        go_wp2
        go_roundw
        case rel => exact ⟨k + 1, _, by omega, by go_num, H4.out⟩
        case measure => simp [intOf]; omega
      · have t2 : decide ((k : Int) < (l.length : Int)) = false := by simp; omega
        have t2' : decide (k < l.length) = false := by simp; omega
        have hfit := H3.out.fits
        obtain ⟨n, hn⟩ : ∃ n, xs.length = n := ⟨_, rfl⟩
        have HN := Lib.hid hn
        clear hn
        have hn256 : n ≤ 256 := by have := HN.out; omega
        clear hfit
        have hsz := H3.out.below.size
        go_wp2_with (fail)
        with_reducible refine (has_sorted n HN.out H3.out).mono ?_
        rintro e w5 ⟨b, c, rfl, ho, hh, hb5⟩
        have HO5 := Lib.hid (own_lower ho hsz)
        have hbb : wr.heap.size ≤ b ∧ b < w5.heap.size := own_lt ho rfl
        have H5 : Hid (∃ S, Idx S w.heap.size w5 p 256 xs ∧ ¬ S b) := by
          obtain ⟨S, hi⟩ := H3.out.1
          exact ⟨S, hi.more hb5, fun hS => by have := (hi.inS b hS).2; omega⟩
        have B5 := Lib.hid hh.below
        have hs5 := hh.below.size
        have hR5 : Hid (Reads w5 (some ⟨b, 0, none⟩) (srt xs)) := by
          obtain ⟨A, cp, e1, _, hr⟩ := Reads.own ho
          cases e1
          exact hr
        have HE5 : Hid ((w5.alloc (.cells #[] 9)).ownsRow w.heap.size 9 1 (.slice (some ⟨w5.heap.size, 0, none⟩) 0 0) 0 (([] : List ByteArray).map .string)) := World.ownsRow_lit w5 #[] 0 hs5 (by unfold maxLen; omega) rfl
        have HSL := Lib.hid (show (srt xs).length = n by rw [length_srt]; exact HN.out)
        clear ho hh hb5
        go_wp2_with (
          at_builtin
          refine wpList_append_any rfl _ _ rfl w.heap.size 0 n c n (.slice (some ⟨w5.heap.size, 0, none⟩) 0 0) [] (srt xs) (some ⟨b, 0, none⟩) rfl rfl HE5.out HSL.out (hR5.out.below (Nat.le_refl _) ((Below.refl _ _).alloc (Nat.le_refl _) _)) (by omega) (by omega) (by simp; omega) ?_
          intro A6 c6 w6 hl6
          have V6 : Hid (w6.ownsRow w.heap.size 9 1 (.slice A6 n c6) n ((srt xs).map .string)) := hl6.1
          have hv6 : (Value.slice A6 n c6).ownBlock ≠ some b := by
            rcases hl6.2.2 with h | h
            · rw [h]; exact fun e => by have := own_at e; omega
            · rw [h]; simp; omega
          have HV6 := Lib.hid hv6
          have B6 : Hid (Below w.heap.size w w6) := hl6.below (B5.out.alloc hs5 _) (by simp; omega) (fun k hk => by have := own_at hk; omega)
          have same6 : Hid (∀ k, k < w5.heap.size → w6.heap[k]? = w5.heap[k]?) := fun k hk => by
            rw [hl6.2.1.block k (by simp; omega) (fun e => by have := own_at e.symm; omega)]
            exact Below.heap_alloc w5 _ k hk
          have hs6 : w5.heap.size ≤ w6.heap.size := by have := hl6.2.1.size; simp at this; omega
          have H6 : Hid (∃ S, Idx S w.heap.size w6 p 256 xs ∧ ¬ S b) := by
            obtain ⟨S, hi, hSb⟩ := H5.out
            exact ⟨S, hi.same hs6 (fun k hk => same6.out k (hi.inS k hk).2), hSb⟩
          have O6 : Hid (w6.ownsRow w.heap.size 9 1 (.slice (some ⟨b, 0, none⟩) n c) n ((srt xs).map .string)) := own_same HO5.out (fun k hk => same6.out k (own_lt HO5.out hk).2)
          clear hl6 hv6)
        go_loopw [8] (fun i W => TurnRel n xs w p b c (.slice A6 n c6) i W) (fun i _ => n - (intOf i).toNat)
        case atStart => exact ⟨0, _, by omega, rfl, H6.out, B6.out, O6.out, fun j hj => by
          have hj' : j < (srt xs).length := by rw [HSL.out]; exact hj
          exact ⟨(srt xs)[j], by simp [hj']⟩, V6.out, HV6.out⟩
        case round =>
          obtain ⟨i, ys, hi, rfl, hh, hbw, ho, hys, hv, hvb⟩ := hrel
          have H7 := Lib.hid hh
          have B7 := Lib.hid hbw
          have O7 := Lib.hid ho
          have V7 := Lib.hid hv
          have HVB := Lib.hid hvb
          clear hh hbw ho hv hvb
          by_cases hin : i < n
          · have t3 : decide ((i : Int) < (n : Int)) = true := by simp; omega
            obtain ⟨z, hz⟩ := hys i hin
            have hc := O7.out.cellAt i (by omega)
            rw [hz] at hc
            have hfz := O7.out.frozenAt i
            have HYS := Lib.hid hys
            clear hys hz
            go_wp2
            go_roundw
            case rel =>
              refine ⟨i + 1, ys.set i (.string ⟨#[63]⟩), by omega, by go_num, ?_, ?_, (O7.out.stored i _).1, ?_, ?_, HVB.out⟩
              · obtain ⟨S, hi, hSb⟩ := H7.out
                exact ⟨S, hi.same (by simp [World.setCell]) (fun k hk => Below.heap_setCell _ _ _ k (fun e => hSb (by have e' : k = b := e; rw [← e']; exact hk))), hSb⟩
              · exact B7.out.setCell (p := ⟨b, i, none⟩) (by have := own_lt O7.out (k := b) rfl; exact this.1) _
              · intro j hj
                obtain ⟨z', hz'⟩ := HYS.out j hj
                by_cases hji : i = j
                · subst hji
                  have := (List.getElem?_eq_some_iff.1 hz').1
                  exact ⟨⟨#[63]⟩, by rw [List.getElem?_set_self this]⟩
                · exact ⟨z', by rw [List.getElem?_set_ne hji]; exact hz'⟩
              · exact own_same V7.out (fun k hk => Below.heap_setCell _ _ _ k (fun e => HVB.out (by have e' : k = b := e; rw [← e']; exact hk)))
            case measure => simp [intOf]; omega
          · have t3 : decide ((i : Int) < (n : Int)) = false := by simp; omega
            have t3' : decide (i < n) = false := by simp; omega
            have H8 : Hid (Has w p 256 xs wr) := by
              obtain ⟨S, hi, _⟩ := H7.out
              exact ⟨⟨S, hi⟩, B7.out⟩
            clear hys
            go_wp2_with (fail)
            with_reducible refine (has_sorted n HN.out H8.out).mono ?_
            rintro e w9 ⟨b9, c9, rfl, ho9, hh9, hb9⟩
            have R9 : Hid (Reads w9 (some ⟨b9, 0, none⟩) (srt xs)) := by
              obtain ⟨A, cp, e1, _, hr⟩ := Reads.own ho9
              cases e1
              exact hr
            have V9 : Hid (Reads w9 A6 (srt xs)) := by
              obtain ⟨A, cp, e1, _, hr⟩ := Reads.own (own_same (w' := w9) V7.out (fun k hk => hb9.block k (own_lt V7.out hk).2))
              cases e1
              exact hr
            have B9 := Lib.hid hh9.below
            clear ho9 hh9 hb9
            have SM := Lib.hid (ref_same (srt xs) (some ⟨b9, 0, none⟩) A6 c9 c6 (by rw [HSL.out]; omega) R9.out V9.out)
            rw [HSL.out] at SM
            go_wp2_with (fail)
            with_reducible refine SM.out.mono ?_
            rintro e w' ⟨rfl, m, rfl⟩
            go_wp2
            go_ret
            exact ⟨rfl, below_drewN B9.out m⟩
end Keeps
end Go.Proofs.Ytfendnccnhmllaa
