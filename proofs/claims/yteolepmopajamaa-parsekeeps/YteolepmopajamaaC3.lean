/- The walk of the statement on a text twice. -/
import Derived.Test.YteolepmopajamaaC2
import Derived.Test.YteolepmopajamaaLBa
namespace Go.Proofs.Yteolepmopajamaa
open Go.RowKit Lx Kx

def JoinRel (W : World) (n : Nat) (zs : List UInt8) (A : Option Addr) (c : Nat) (W' : World) : Prop :=
  W'.ownsRow W.heap.size 5 1 (.slice A n c) n (bytesV zs) ∧ Below W.heap.size W W'
section
variable {W W1 W2 : World} {n m c c' : Nat} {xs zs : List UInt8} {A A' : Option Addr}
theorem JoinRel.longer (h : JoinRel W n xs A c W1) (hl : LongerB W.heap.size W1 (.slice A n c) m zs A' c' W2) : JoinRel W m zs A' c' W2 := ⟨hl.1, hl.below h.2 h.2.size (fun _ hk => (own_lt h.1 hk).1)⟩
theorem JoinRel.alloc (h : JoinRel W n xs A c W1) (o : Obj) : JoinRel W n xs A c (W1.alloc o) := ⟨World.ownsRow.alloc h.1 o, h.2.alloc h.2.size o⟩
theorem JoinRel.nil (W : World) : JoinRel W 0 [] (some ⟨W.heap.size, 0, none⟩) 0 (W.alloc (.cells #[] 5)) := ⟨own_empty W (Nat.le_refl _), (Below.refl _ _).alloc (Nat.le_refl _) _⟩
end
/-- Lines' ends up to a place. -/
def CountRel (l : List UInt8) (V : World) (vl vi : Value) (W : World) : Prop := ∃ k : Nat, k ≤ l.length ∧ vi = .int .i64 (k : Int) ∧ vl = .int .i64 ((1 + nl (l.take k) : Nat) : Int) ∧ W = V
theorem nl_le : ∀ l : List UInt8, nl l ≤ l.length
  | [] => Nat.le_refl _
  | c :: l => by have := nl_le l; simp only [nl, List.length_cons]; split <;> omega
theorem nl_next {l : List UInt8} {k : Nat} {c : UInt8} (h : l[k]? = some c) : nl (l.take (k + 1)) = nl (l.take k) + (if c.toNat = 10 then 1 else 0) := by
  rw [List.take_add_one, h, nl_append]; simp [nl]

set_option maxRecDepth 100000 in
set_option maxHeartbeats 8000000 in
theorem coreTwice (l : List UInt8) (a : Option Addr) (cap : Nat) {w : World} (hm : l.length ≤ maxLen) (hb : Bytes w a cap l) : Calls Try.prog 7 #[.slice a l.length cap] w (Woke w) := by
  unfold maxLen at hm
  have HB := Lib.hid hb
  have hle := hb.le
  clear hb
  by_cases h5 : 2000 < l.length
  · have t1 : decide ((2000 : Int) < (l.length : Int)) = true := by simp; omega
    go_enter Try.func7, Try.ntmps7
    go_wp2_with (fail)
    refine (awake _).mono ?_
    rintro e w1 ⟨rfl, hb1⟩
    have H1 := Lib.hid hb1
    clear hb1
    go_wp2_with (fail)
    refine (awake _).mono ?_
    rintro e w2 ⟨rfl, hb2⟩
    have H2 := Lib.hid (H1.out.trans (hb2.mono H1.out.size))
    clear hb2
    go_wp2
    go_ret
    exact ⟨rfl, H2.out⟩
  · have t1 : decide ((2000 : Int) < (l.length : Int)) = false := by simp; omega
    go_enter Try.func7, Try.ntmps7
    go_wp2_with (fail)
    refine (awake _).mono ?_
    rintro e w1 ⟨rfl, hb1⟩
    have HB1 := Lib.hid hb1
    clear hb1
    obtain ⟨⟨⟨B, L⟩, E, li, co⟩, hS⟩ : ∃ S, S = setA l := ⟨_, rfl⟩
    have HS := Lib.hid hS
    have K1 := Lib.hid (set' hS.symm (by omega) rfl (HB.out.below (Nat.le_refl _) HB1.out))
    clear hS
    go_wp2_with (fail)
    with_reducible refine K1.out.mono ?_
    rintro e w2 ⟨A, c, rfl, _, _, hb2⟩
    have HB2 := Lib.hid (HB1.out.trans (hb2.mono HB1.out.size))
    clear hb2
    by_cases hE : E = 0
    · subst hE
      obtain ⟨li2, co2, hS2, hL2, hC2⟩ := twice (b := l) (by rw [← HS.out])
      obtain ⟨V, hV⟩ : ∃ V, V = (w2.alloc (.cells #[.int .i64 B, .slice A L.length c] 26)).alloc (.cells #[.int .i64 0, .int .i64 (li : Int), .int .i64 (co : Int)] 29) := ⟨_, rfl⟩
      have HVE := Lib.hid hV
      have HBV : Hid (Below w.heap.size w V) := by rw [hV]; exact (HB2.out.alloc HB2.out.size _).alloc (by have := HB2.out.size; simp; omega) _
      have HBY := Lib.hid (HB.out.below (Nat.le_refl _) HBV.out)
      have hnl := nl_le l
      have HS2 := Lib.hid hS2
      clear hV hS2
      go_upto_region 6 with fail
      rw [← HVE.out]
      go_wp2
      go_loopw [5, 6] (fun vl vi W => CountRel l V vl vi W) (fun _ vi _ => l.length - (intOf vi).toNat)
      case atStart => exact ⟨0, Nat.zero_le _, rfl, rfl, rfl⟩
      case round =>
        obtain ⟨k, hk, rfl, rfl, rfl⟩ := hrel
        by_cases hlt : k < l.length
        · have t2 : decide ((k : Int) < (l.length : Int)) = true := by simp; omega
          obtain ⟨b, off, rfl, _, hc⟩ := HBY.out.at_ (by omega)
          have hx : l[k]? = some l[k] := List.getElem?_eq_getElem hlt
          have ck := hc k _ hx
          have HN := Lib.hid (nl_next hx)
          have HLE := Lib.hid (nl_le (l.take k))
          have hn1 : nl (l.take k) ≤ 2000 := by have := HLE.out; rw [List.length_take] at this; omega
          clear hc hx HLE
          generalize l[k] = x at ck HN
          generalize nl (l.take k) = m at HN hn1
          by_cases h10 : x.toNat = 10
          · have q : ((x.toNat : Int) == 10) = true := by rw [h10]; rfl
            have HT : Hid (nl (l.take (k + 1)) = m + 1) := by rw [HN.out, if_pos h10]; exact (rfl : _ = _)
            clear HN h10
            generalize (x.toNat : Int) = z at ck q
            go_wp2
            go_roundw
            case rel => exact ⟨k + 1, by omega, by go_num, by rw [HT.out]; go_num, rfl⟩
            case measure => simp [intOf]; omega
          · have q : ((x.toNat : Int) == 10) = false := by rw [beq_eq_false_iff_ne]; omega
            have HT : Hid (nl (l.take (k + 1)) = m) := by rw [HN.out, if_neg h10]; exact (rfl : _ = _)
            clear HN h10
            generalize (x.toNat : Int) = z at ck q
            go_wp2
            go_roundw
            case rel => exact ⟨k + 1, by omega, by go_num, by rw [HT.out], rfl⟩
            case measure => simp [intOf]; omega
        · have t2 : decide ((k : Int) < (l.length : Int)) = false := by simp; omega
          have t2' : decide (k < l.length) = false := by simp; omega
          obtain rfl : k = l.length := by omega
          have HT := Lib.hid (show nl (l.take l.length) = nl l by rw [List.take_length])
          rw [HT.out]
          have HP0 := Lib.hid (JoinRel.nil wr)
          have hws : w.heap.size ≤ wr.heap.size := HBV.out.size
          have HBa : Hid (Bytes (wr.alloc (.cells #[] 5)) a cap l) := HB.out.below (Nat.le_refl _) (HBV.out.alloc hws _)
          have HBB : Hid (∀ W, Below wr.heap.size wr W → Bytes W a cap l) := fun W hW => HB.out.below (Nat.le_refl _) (HBV.out.trans (hW.mono hws))
          go_wp2_with (at_builtin; first
            | (refine wpList_append_bytes rfl _ _ rfl wr.heap.size (l.length + 1) l.length cap (l.length + 1 + l.length) (.slice A2 (l.length + 1) c2) (l ++ [10]) l a (by rfl) (by rfl) P2.out.1 rfl (HBB.out _ P2.out.2) rfl (by omega) P2.out.2.size ?_
               intro A3 c3 w6 hl3
               have P3 := Lib.hid (P2.out.longer hl3)
               clear hl3)
            | (refine wpList_append_bytes rfl _ _ rfl wr.heap.size l.length 1 1 (l.length + 1) (.slice A1 l.length c1) l [10] (some ⟨w4.heap.size, 0, none⟩) (by rfl) (by rfl) (P1.out.alloc _).1 rfl (bytes_one w4 10 rfl) rfl (by omega) (P1.out.alloc _).2.size ?_
               intro A2 c2 w5 hl2
               have P2 := Lib.hid ((P1.out.alloc _).longer hl2)
               clear hl2)
            | (refine wpList_append_bytes rfl _ _ rfl wr.heap.size 0 l.length cap l.length (.slice (some ⟨wr.heap.size, 0, none⟩) 0 0) [] l a (by rfl) (by rfl) HP0.out.1 rfl HBa.out (by omega) (by omega) HP0.out.2.size ?_
               intro A1 c1 w4 hl1
               have P1 : Hid (JoinRel wr l.length l A1 c1 w4) := HP0.out.longer hl1
               clear hl1))
          obtain ⟨hln, hbz⟩ := Bytes.own P3.out.1
          have K3 := Lib.hid (set' HS2.out (by rw [← hln]; omega) hln.symm hbz)
          clear hln hbz
          with_reducible refine K3.out.mono ?_
          rintro e w7 ⟨A7, c7, rfl, _, _, hb7⟩
          have HB7 := Lib.hid (P3.out.2.trans (hb7.mono P3.out.2.size))
          have HW7 := Lib.hid (HBV.out.trans (HB7.out.mono hws))
          clear hb7
          have HB8 := Lib.hid ((HW7.out.alloc HW7.out.size (.cells #[.int .i64 0, .slice A7 0 c7] 26)).alloc (by have := HW7.out.size; simp; omega) (.cells #[.int .i64 5, .int .i64 (li2 : Int), .int .i64 (co2 : Int)] 29))
          have d1 : decide (((1 + nl l : Nat) : Int) < (li2 : Int)) = true := by simp; omega
          have d1' : decide (1 + nl l < li2) = true := by simp; omega
          have d2 : decide ((1 : Int) ≤ (co2 : Int)) = true := by simp; omega
          generalize 1 + nl l = N at d1 d1' ⊢
          simp only [List.length_nil]
          go_wp2
          go_ret
          exact ⟨rfl, HB8.out⟩
    · have q : ((E : Int) != 0) = true := by simp; omega
      go_wp2
      go_ret
      exact ⟨rfl, (HB2.out.alloc HB2.out.size _).alloc (by have := HB2.out.size; simp; omega) _⟩
end Go.Proofs.Yteolepmopajamaa
