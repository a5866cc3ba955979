/- The walk of the statement on blanks. -/
import Derived.Test.YteolepmopajamaaOu
import Derived.Test.YteolepmopajamaaPk
import Derived.Test.YteolepmopajamaaKSa
namespace Go.Proofs.Yteolepmopajamaa
open Go.RowKit Lx Kx

def tailB : List UInt8 := [32, 35, 32, 97, 110, 100, 32, 115, 111, 32, 111, 110, 10, 32, 10]
def BlankRel (l : List UInt8) (V : World) (vo vi : Value) (W : World) : Prop := ∃ (k n : Nat) (A : Option Addr) (c : Nat), k ≤ l.length ∧ vi = .int .i64 (k : Int) ∧ vo = .slice A n c ∧ OutRel V n (headB ++ tr (l.take k)) A c W
theorem tr_next {l : List UInt8} {k : Nat} {x : UInt8} (h : l[k]? = some x) : headB ++ tr (l.take (k + 1)) = headB ++ tr (l.take k) ++ trC x := by
  rw [List.take_add_one, h, tr_append]; simp [tr]
theorem len_set (b : List UInt8) : (setA b).1.2.length ≤ 16 := by
  rcases setA_cases b with ⟨_, _, _, _, h⟩ | ⟨_, h, _⟩
  · exact ((right_iff _ _).1 h).2.1.2
  · rw [h]; simp
theorem bytes_two (w : World) : Bytes (w.alloc (.cells #[.int .u8 9, .int .u8 32] 5)) (some ⟨w.heap.size, 0, none⟩) 2 [9, 32] :=
  bytes_row (heap_alloc_new w _) (Nat.le_refl _) (fun i x hi => by
    match i, hi with
    | 0, hi => have : (9 : UInt8) = x := by simpa using hi
               subst this; rfl
    | 1, hi => have : (32 : UInt8) = x := by simpa using hi
               subst this; rfl)

set_option maxRecDepth 100000 in
set_option maxHeartbeats 8000000 in
theorem coreBlanks (l : List UInt8) (a : Option Addr) (cap : Nat) {w : World} (hm : l.length ≤ maxLen) (hb : Bytes w a cap l) : Calls Try.prog 5 #[.slice a l.length cap] w (Woke w) := by
  unfold maxLen at hm
  have HB := Lib.hid hb
  have hle := hb.le
  clear hb
  by_cases h5 : 3000 < l.length
  · have t1 : decide ((3000 : Int) < (l.length : Int)) = true := by simp; omega
    go_enter Try.func5, Try.ntmps5
    go_wp2_with (fail)
    refine (awake _).mono ?_
    rintro e w1 ⟨rfl, hb1⟩
    have H1 := Lib.hid hb1
    clear hb1
    go_wp2_with (fail)
    refine (awake _).mono ?_
    rintro e w2 ⟨rfl, hb2⟩
    have H2 := Lib.hid (H1.out.trans (hb2.mono H1.out.size))
    clear hb2
    go_wp2
    go_ret
    exact ⟨rfl, H2.out⟩
  · have t1 : decide ((3000 : Int) < (l.length : Int)) = false := by simp; omega
    go_enter Try.func5, Try.ntmps5
    go_wp2_with (fail)
    refine (awake _).mono ?_
    rintro e w1 ⟨rfl, hb1⟩
    have HB1 := Lib.hid hb1
    clear hb1
    obtain ⟨⟨⟨B, L⟩, E, li, co⟩, hS⟩ : ∃ S, S = setA l := ⟨_, rfl⟩
    obtain ⟨⟨⟨B2, L2⟩, E2, li2, co2⟩, hS2⟩ : ∃ S, S = setA (headB ++ tr l) := ⟨_, rfl⟩
    have hlk := blanks l
    have hls := len_set l
    rw [← hS] at hls
    rw [← hS, ← hS2] at hlk
    obtain ⟨hbl, hee, hln⟩ := hlk
    cases hbl
    have hee' : E = E2 := hee
    subst hee'
    have hln' : E ≠ 0 → li < li2 := hln
    have hls' : L.length ≤ 16 := hls
    have HS2 := Lib.hid hS2
    have HLN := Lib.hid hln'
    have K1 := Lib.hid (set' hS.symm (by omega) rfl (HB.out.below (Nat.le_refl _) HB1.out))
    clear hS hS2 hee hln hls hln'
    go_wp2_with (fail)
    with_reducible refine K1.out.mono ?_
    rintro e w2 ⟨A, c, rfl, hta, _, hb2⟩
    have HB2 := Lib.hid (HB1.out.trans (hb2.mono HB1.out.size))
    have HTA := Lib.hid hta
    clear hb2 hta
    obtain ⟨V, hV⟩ : ∃ V, V = (w2.alloc (.cells #[.int .i64 B, .slice A L.length c] 26)).alloc (.cells #[.int .i64 (E : Int), .int .i64 (li : Int), .int .i64 (co : Int)] 29) := ⟨_, rfl⟩
    have HVE := Lib.hid hV
    have HV2 : Hid (Below w2.heap.size w2 V) := by rw [hV]; exact (below_new _ _).alloc (by simp) _
    have HBV := Lib.hid (HB2.out.trans (HV2.out.mono HB2.out.size))
    have HL1 : Hid (Lies V w2.heap.size 26 #[.int .i64 B, .slice A L.length c]) := by rw [hV]; exact (Lies.made _ _ _).alloc _
    have HL2 := Lib.hid (show Lies V (w2.heap.size + 1) 29 #[.int .i64 (E : Int), .int .i64 (li : Int), .int .i64 (co : Int)] by
      rw [hV]
      have := Lies.made (w2.alloc (.cells #[.int .i64 B, .slice A L.length c] 26)) 29 #[.int .i64 (E : Int), .int .i64 (li : Int), .int .i64 (co : Int)]
      simpa using this)
    have hws : w.heap.size ≤ V.heap.size := HBV.out.size
    clear hV
    go_upto_region 4 with fail
    rw [← HVE.out]
    have hc0 : (convert 22 22 (.slice (some ⟨V.heap.size, 0, none⟩) 12 12)).run Try.prog (V.alloc (.cells #[.int .u8 35, .int .u8 32, .int .u8 97, .int .u8 32, .int .u8 114, .int .u8 101, .int .u8 109, .int .u8 97, .int .u8 114, .int .u8 107, .int .u8 10, .int .u8 10] 5)) = .ok (.slice (some ⟨V.heap.size, 0, none⟩) 12 12) (V.alloc (litO headB)) := conv_lit V _ 12 12
    have HO0 : Hid (OutRel V 12 headB (some ⟨V.heap.size, 0, none⟩) 12 (V.alloc (litO headB))) := out_lit V headB (by decide)
    go_wp2
    clear hc0
    go_loopw [5, 6] (fun vo vi W => BlankRel l V vo vi W) (fun _ vi _ => l.length - (intOf vi).toNat)
    case atStart => exact ⟨0, 12, _, 12, Nat.zero_le _, rfl, rfl, by simpa [tr] using HO0.out⟩
    case round =>
      obtain ⟨k, n, A', c', hk, rfl, rfl, ho⟩ := hrel
      have HO := Lib.hid ho
      have hn : n ≤ 50000 := by
        have h1 := ho.bytes.1
        have h2 := tr_len (l.take k)
        rw [List.length_append, show headB.length = 12 from rfl] at h1
        rw [List.length_take] at h2
        omega
      have HBW := Lib.hid (HBV.out.trans (ho.below.mono hws))
      have HBY := Lib.hid (HB.out.below (Nat.le_refl _) HBW.out)
      clear ho
      by_cases hlt : k < l.length
      · have t2 : decide ((k : Int) < (l.length : Int)) = true := by simp; omega
        obtain ⟨b, off, rfl, hbw, hc⟩ := HBY.out.at_ (by omega)
        have hx : l[k]? = some l[k] := List.getElem?_eq_getElem hlt
        have ck := hc k _ hx
        have HT := Lib.hid (tr_next hx)
        clear hc hx
        generalize l[k] = x at ck HT
        by_cases h32 : x.toNat = 32
        · have q1 : ((x.toNat : Int) == 32) = true := by rw [h32]; rfl
          have HT' : Hid (headB ++ tr (l.take (k + 1)) = headB ++ tr (l.take k) ++ [9, 32]) := by rw [HT.out, trC, if_pos h32]; exact (rfl : _ = _)
          clear HT h32
          generalize (x.toNat : Int) = z at ck q1
          go_wp2_with (at_builtin; refine wpList_append_out rfl _ _ rfl V n 2 c' 2 (n + 2) (headB ++ tr (l.take k)) [9, 32] A' (some ⟨wr.heap.size, 0, none⟩) (by rfl) (by rfl) (HO.out.on (below_new _ _)) rfl (by omega) (bytes_two wr) rfl (by omega) ?_; intro A3 c3 w3 hj; have HJ := Lib.hid hj; clear hj)
          go_roundw
          case rel => exact ⟨k + 1, n + 2, A3, c3, by omega, by go_num, rfl, by rw [HT'.out]; exact .inl HJ.out⟩
          case measure => simp [intOf]; omega
        · have q1 : ((x.toNat : Int) == 32) = false := by rw [beq_eq_false_iff_ne]; omega
          by_cases h10 : x.toNat = 10
          · have q2 : ((x.toNat : Int) == 10) = true := by rw [h10]; rfl
            have HT' : Hid (headB ++ tr (l.take (k + 1)) = headB ++ tr (l.take k) ++ tailB) := by rw [HT.out, trC, if_neg h32, if_pos h10]; exact (rfl : _ = _)
            clear HT h32 h10
            generalize (x.toNat : Int) = z at ck q1 q2
            have hcv : (convert 22 22 (.slice (some ⟨wr.heap.size, 0, none⟩) 15 15)).run Try.prog (wr.alloc (.cells #[.int .u8 32, .int .u8 35, .int .u8 32, .int .u8 97, .int .u8 110, .int .u8 100, .int .u8 32, .int .u8 115, .int .u8 111, .int .u8 32, .int .u8 111, .int .u8 110, .int .u8 10, .int .u8 32, .int .u8 10] 5)) = .ok (.slice (some ⟨wr.heap.size, 0, none⟩) 15 15) (wr.alloc (litO tailB)) := conv_lit wr _ 15 15
            have HBT : Hid (Bytes (wr.alloc (litO tailB)) (some ⟨wr.heap.size, 0, none⟩) 15 tailB) := bytes_lit wr tailB
            go_wp2_with (at_builtin; refine wpList_append_out rfl _ _ rfl V n 15 c' 15 (n + 15) (headB ++ tr (l.take k)) tailB A' (some ⟨wr.heap.size, 0, none⟩) (by rfl) (by rfl) (HO.out.on (below_new _ _)) rfl (by omega) HBT.out rfl (by omega) ?_; intro A3 c3 w3 hj; have HJ := Lib.hid hj; clear hj)
            go_roundw
            case rel => exact ⟨k + 1, n + 15, A3, c3, by omega, by go_num, rfl, by rw [HT'.out]; exact .inl HJ.out⟩
            case measure => simp [intOf]; omega
          · have q2 : ((x.toNat : Int) == 10) = false := by rw [beq_eq_false_iff_ne]; omega
            have HT' : Hid (headB ++ tr (l.take (k + 1)) = headB ++ tr (l.take k) ++ [x]) := by rw [HT.out, trC, if_neg h32, if_neg h10]; exact (rfl : _ = _)
            have HB1x : Hid (∀ z : Int, z = (x.toNat : Int) → Bytes (wr.alloc (.cells #[.int .u8 z] 5)) (some ⟨wr.heap.size, 0, none⟩) 1 [x]) := fun z hz => bytes_one wr x hz
            clear HT h32 h10
            obtain ⟨z, hz⟩ : ∃ z : Int, z = (x.toNat : Int) := ⟨_, rfl⟩
            rw [← hz] at ck q1 q2
            have HBX := Lib.hid (HB1x.out z hz)
            clear hz HB1x
            go_wp2_with (at_builtin; refine wpList_append_out rfl _ _ rfl V n 1 c' 1 (n + 1) (headB ++ tr (l.take k)) [x] A' (some ⟨wr.heap.size, 0, none⟩) (by rfl) (by rfl) (HO.out.on (below_new _ _)) rfl (by omega) HBX.out rfl (by omega) ?_; intro A3 c3 w3 hj; have HJ := Lib.hid hj; clear hj)
            go_roundw
            case rel => exact ⟨k + 1, n + 1, A3, c3, by omega, by go_num, rfl, by rw [HT'.out]; exact .inl HJ.out⟩
            case measure => simp [intOf]; omega
      · have t2 : decide ((k : Int) < (l.length : Int)) = false := by simp; omega
        have t2' : decide (k < l.length) = false := by simp; omega
        obtain rfl : k = l.length := by omega
        have hob := HO.out.bytes
        rw [List.take_length] at hob
        have K2 := Lib.hid (set' HS2.out.symm (by rw [hob.1]; omega) hob.1 hob.2)
        clear hob
        go_wp2_with (fail)
        with_reducible refine K2.out.mono ?_
        rintro e w4 ⟨A4, c4, rfl, hta4, _, hb4⟩
        obtain ⟨V4, hV4⟩ : ∃ V4, V4 = (w4.alloc (.cells #[.int .i64 B, .slice A4 L.length c4] 26)).alloc (.cells #[.int .i64 (E : Int), .int .i64 (li2 : Int), .int .i64 (co2 : Int)] 29) := ⟨_, rfl⟩
        have HV4 := Lib.hid hV4
        have HW4 : Hid (Below w4.heap.size w4 V4) := by rw [hV4]; exact (below_new _ _).alloc (by simp) _
        have H3 := Lib.hid (HO.out.below.trans (hb4.mono HO.out.below.size))
        have HVV := Lib.hid (H3.out.trans (HW4.out.mono H3.out.size))
        have HWV := Lib.hid (HBV.out.trans (HVV.out.mono hws))
        have HL1' := Lib.hid (HL1.out.below HVV.out HL1.out.lt)
        have HL2' := Lib.hid (HL2.out.below HVV.out HL2.out.lt)
        have HL3 : Hid (Lies V4 w4.heap.size 26 #[.int .i64 B, .slice A4 L.length c4]) := by rw [hV4]; exact (Lies.made _ _ _).alloc _
        have HL4 := Lib.hid (show Lies V4 (w4.heap.size + 1) 29 #[.int .i64 (E : Int), .int .i64 (li2 : Int), .int .i64 (co2 : Int)] by
          rw [hV4]
          have := Lies.made (w4.alloc (.cells #[.int .i64 B, .slice A4 L.length c4] 26)) 29 #[.int .i64 (E : Int), .int .i64 (li2 : Int), .int .i64 (co2 : Int)]
          simpa using this)
        have KS := Lib.hid (same B L A A4 c c4 (w := V4) (by omega) ((HTA.out.below (Nat.le_refl _) (HV2.out.trans (HVV.out.mono HV2.out.size)))) (hta4.below (Nat.le_refl _) HW4.out))
        clear hta4 hb4 hV4
        go_upto_region 14 with fail
        rw [← HV4.out]
        have a0 : V4.cell? ⟨w2.heap.size, 0, none⟩ = some (.int .i64 B) := (HL1'.out.cell 0).trans rfl
        have a1 : V4.cell? ⟨w2.heap.size, 1, none⟩ = some (.slice A L.length c) := (HL1'.out.cell 1).trans rfl
        have b0 : V4.cell? ⟨w2.heap.size + 1, 0, none⟩ = some (.int .i64 (E : Int)) := (HL2'.out.cell 0).trans rfl
        have d0 : V4.cell? ⟨w4.heap.size, 0, none⟩ = some (.int .i64 B) := (HL3.out.cell 0).trans rfl
        have d1 : V4.cell? ⟨w4.heap.size, 1, none⟩ = some (.slice A4 L.length c4) := (HL3.out.cell 1).trans rfl
        have e0 : V4.cell? ⟨w4.heap.size + 1, 0, none⟩ = some (.int .i64 (E : Int)) := (HL4.out.cell 0).trans rfl
        go_wp2_with (fail)
        with_reducible refine KS.out.mono ?_
        rintro e w5 ⟨rfl, hb5⟩
        have HL5 := Lib.hid (HL2'.out.below hb5 HL2'.out.lt)
        have HL6 := Lib.hid (HL4.out.below hb5 HL4.out.lt)
        have HB5 := Lib.hid (HWV.out.trans (hb5.mono HWV.out.size))
        have b0' : w5.cell? ⟨w2.heap.size + 1, 0, none⟩ = some (.int .i64 (E : Int)) := (HL5.out.cell 0).trans rfl
        have b1' : w5.cell? ⟨w2.heap.size + 1, 1, none⟩ = some (.int .i64 (li : Int)) := (HL5.out.cell 1).trans rfl
        have e1' : w5.cell? ⟨w4.heap.size + 1, 1, none⟩ = some (.int .i64 (li2 : Int)) := (HL6.out.cell 1).trans rfl
        clear hb5 a0 a1 b0 d0 d1 e0
        by_cases hE : E = 0
        · subst hE
          go_wp2
          go_ret
          exact ⟨rfl, HB5.out⟩
        · have q : ((E : Int) == 0) = false := by rw [beq_eq_false_iff_ne]; omega
          have hlt' := HLN.out hE
          have g1 : decide ((li : Int) < (li2 : Int)) = true := by simp; omega
          have g1' : decide (li < li2) = true := by simp; omega
          clear hE
          go_wp2
          go_ret
          exact ⟨rfl, HB5.out⟩
end Go.Proofs.Yteolepmopajamaa
