/- What the recurrence makes of a time; the response time: the program's own. -/
import Derived.Test.YtklnokhabomnfaaRc
namespace Go.Proofs.Ytklnokhabomnfaa
open Go.RowKit

/-- A set's box and a recurrence's, behind a call. -/
structure Duo (O b g S : Int) (n0 : Nat) (a : Option Addr) (cap : Nat) (w : World) (r : Nat) (A : Option Addr) (n c : Nat) (L : List (Int × Int)) (W : World) : Prop where
  set : SetBox w b a n0 cap W
  own : Lies W r 56 #[.int .i64 O, .slice A n c, .int .i64 b, .int .i64 g, .int .i64 S]
  row : Pairs W A c L
theorem Duo.tells {O b g S : Int} {n0 : Nat} {a : Option Addr} {cap : Nat} {w : World} {r : Nat} {A : Option Addr} {n c : Nat} {L : List (Int × Int)} {W W' : World} (h : Duo O b g S n0 a cap w r A n c L W) (hb : Below W.heap.size W W') : Duo O b g S n0 a cap w r A n c L W' :=
  ⟨h.set.tells hb, h.own.below hb h.own.lt, h.row.tells hb⟩
theorem Duo.made {O b g S : Int} {n0 : Nat} {a : Option Addr} {cap : Nat} {w : World} {A : Option Addr} {n c : Nat} {L : List (Int × Int)} {W : World} (h : SetBox w b a n0 cap W) (hp : Pairs W A c L) :
    Duo O b g S n0 a cap w W.heap.size A n c L (W.alloc (.cells #[.int .i64 O, .slice A n c, .int .i64 b, .int .i64 g, .int .i64 S] 56)) :=
  ⟨h.tells (below_new _ _), Lies.made _ _ _, hp.tells (below_new _ _)⟩
def RespRel (O b g S D : Int) (F : Int → Int) (n0 : Nat) (a : Option Addr) (cap : Nat) (w : World) (r : Nat) (A : Option Addr) (n c : Nat) (L : List (Int × Int)) (v : Value) (W : World) : Prop :=
  ∃ x, v = .int .i64 x ∧ Climb F x ∧ x ≤ D ∧ Duo O b g S n0 a cap w r A n c L W
set_option maxRecDepth 100000 in
set_option maxHeartbeats 4000000 in
theorem response (b g : Int) {l : List Tk} {a : Option Addr} {cap k : Nat} {o : Tk} {v : Int} {ok : Bool} {w : World} (hl : l.length ≤ 20) (hf : ∀ t ∈ l, Fine t) (ht : Tasks w a cap l) (ho : l[k]? = some o) (b0 : 1 ≤ b) (b1 : b ≤ 1000) (g0 : 1 ≤ g) (g1 : g ≤ 1049576)
    (hR : Resp (nextV b l o g) o.D v ok) :
    Calls Try.prog 23 #[.agg #[.int .i64 b, .slice a l.length cap], .int .i64 (k : Int), .int .i64 g] w (Gives (.tuple #[.int .i64 v, .bool ok]) w) := by
  have hk := (List.getElem?_eq_some_iff.1 ho).1
  have HT := Lib.hid ht
  have HO := Lib.hid ho
  have HB := Lib.hid (SetBox.made w b a l.length cap)
  have hfo := hf o (List.mem_of_getElem? ho)
  have ro := once_range hf hfo
  have rs := struck_range (o := o) b0 b1 hf
  have HL := Lib.hid (abL_small (p := o.Prio) hf)
  have hlen := abL_len o.Prio l
  have HM := Lib.hid (next_mono (o := o) (g := g) b0 b1 g0 hf)
  have HN0 := Lib.hid (fun y (y0 : 0 ≤ y) (y1 : y ≤ 1048576) => next_range (w := y) (g := g) y0 y1 b0 b1 g0 hf hfo (by omega))
  have hD : 1 ≤ o.D ∧ o.D ≤ 1048576 := by obtain ⟨h1, h2, h3, h4, h5, h6⟩ := hfo.times; omega
  have HR := Lib.hid hR
  have KR := Lib.hid (fun W (hb : Below w.heap.size w W) => recurrenceOf b g (by omega) hf (HT.out.below (Nat.le_refl _) hb) ho b0 b1 g0 g1)
  have HV := Lib.hid (fun x => show nextV b l o g x = onceV l o + mostF x b g * struckV b l o + sumA x (abL o.Prio l) from rfl)
  clear ht hf ho hR hfo
  generalize nextV b l o g = F at *
  generalize onceV l o = O at *
  generalize struckV b l o = S at *
  obtain ⟨L, hLE⟩ : ∃ L, L = abL o.Prio l := ⟨_, rfl⟩
  rw [← hLE] at HL hlen
  simp only [← hLE] at HV
  have HLE := Lib.hid hLE
  clear hLE
  have KR1 := Lib.hid (KR.out _ HB.out.below)
  clear KR
  go_enter Try.func23, Try.ntmps23
  go_wp2_with (fail)
  with_reducible refine KR1.out.mono ?_
  rintro e w1 ⟨A, n, c, rfl, hn, hp, hb1⟩
  rw [← HLE.out] at hn hp
  have HB1 := Lib.hid (HB.out.tells hb1)
  have HD := Lib.hid (Duo.made (O := O) (g := g) (S := S) (n := n) HB1.out hp)
  have HN := Lib.hid hn
  clear hb1 HB KR1 hp hn
  have KN := Lib.hid (fun x W (x0 : 0 ≤ x) (x1 : x ≤ 1048576) (hp : Pairs W A c L) => next O b g S x (w := W) (by omega) (by omega) rs.1 rs.2 x0 x1 b0 b1 g0 g1 HN.out (by have := HN.out; omega) HL.out hp)
  simp only [← HV.out] at KN
  go_upto_region 2 with fail
  generalize w1.alloc (.cells #[.int .i64 O, .slice A n c, .int .i64 b, .int .i64 g, .int .i64 S] 56) = X at HD ⊢
  generalize w1.heap.size = r at HD ⊢
  clear HB1 HV
  go_wp2
  go_loopw [10] (fun v W => RespRel O b g S o.D F l.length a cap w r A n c L v W) (fun v _ => (o.D - intOf v).toNat)
  case atStart => exact ⟨0, rfl, Climb.start (by have := (HN0.out 0 (by omega) (by omega)).2.1; omega), by omega, HD.out⟩
  case round =>
    obtain ⟨x, rfl, hc, hx, hd⟩ := hrel
    have HD := Lib.hid hd
    have HC := Lib.hid hc
    have x0 := hc.1
    clear hd hc
    have KN1 := Lib.hid (KN.out x _ x0 (by omega) HD.out.row)
    have r0 : wr.cell? ⟨r, 0, none⟩ = some (.int .i64 O) := HD.out.own.cell 0
    have r1 : wr.cell? ⟨r, 1, none⟩ = some (.slice A n c) := HD.out.own.cell 1
    have r2 : wr.cell? ⟨r, 2, none⟩ = some (.int .i64 b) := HD.out.own.cell 2
    have r3 : wr.cell? ⟨r, 3, none⟩ = some (.int .i64 g) := HD.out.own.cell 3
    have r4 : wr.cell? ⟨r, 4, none⟩ = some (.int .i64 S) := HD.out.own.cell 4
    have HNX := Lib.hid (HC.out.next HM.out)
    have HOV := Lib.hid (fun h => HC.out.over (D := o.D) HM.out h)
    have HFD := Lib.hid (fun h => HC.out.found (D := o.D) h hx)
    generalize hy : F x = y at KN1 HNX HOV HFD
    clear hy
    go_wp2_with (fail)
    with_reducible refine KN1.out.mono ?_
    rintro e w2 ⟨rfl, hb2⟩
    have HD2 := Lib.hid (HD.out.tells hb2)
    clear hb2 r0 r1 r2 r3 r4 KN1
    obtain ⟨s0, s1⟩ := HD2.out.set.cells
    have HT2 := Lib.hid (HT.out.below (Nat.le_refl _) HD2.out.set.below)
    obtain ⟨bb, off, rfl, hbl, y0, y1, y2, y3, y4, y5, y6, y7, y8, y9, y10⟩ := HT2.out.cells HO.out
    have q1 : (0 : Int) ≤ (k : Int) := by omega
    have q2 : (k : Int) < (l.length : Int) := by omega
    clear y0 y1 y3 y4 y5 y6 y7 y8 y9 y10
    by_cases h1 : o.D < y
    · have t1 : decide (o.D < y) = true := decide_eq_true h1
      obtain ⟨rfl, rfl⟩ := HR.out.same (HOV.out h1)
      go_wp2
      go_ret2
      exact ⟨rfl, HD2.out.set.below⟩
    · have t1 : decide (o.D < y) = false := decide_eq_false h1
      by_cases h2 : y = x
      · subst h2
        obtain ⟨rfl, rfl⟩ := HR.out.same (HFD.out rfl)
        go_wp2
        go_ret2
        exact ⟨rfl, HD2.out.set.below⟩
      · have t2 : (y == x) = false := beq_eq_false_iff_ne.2 h2
        obtain ⟨n1, n2⟩ := HNX.out h2
        have HC2 := Lib.hid n1
        clear n1
        go_wp2
        go_roundw
        case rel => exact ⟨y, rfl, HC2.out, by omega, HD2.out⟩
        case measure => simp [intOf]; omega
end Go.Proofs.Ytklnokhabomnfaa
