/- The walk of BurstMost. -/
import Derived.Test.YtckdnnmkookedaaC2
import Derived.Test.YtckdnnmkookedaaMd
import Derived.Test.YtckdnnmkookedaaBm
namespace Go.Proofs.Ytckdnnmkookedaa
open Go.RowKit

def RiseRel (l : List Int) (w : World) (i : Value) (W : World) : Prop :=
  ∃ (k m : Nat), 1 ≤ k ∧ (k = 1 ∨ k ≤ l.length) ∧ i = .int .i64 (k : Int) ∧ Good (l.take k) ∧ W = w.drewN m
def HitRel (S : List Int) (n a z : Int) (w : World) (t i : Value) (W : World) : Prop :=
  ∃ (k h : Nat), k ≤ S.length ∧ i = .int .i64 (k : Int) ∧ t = .int .i64 (h : Int) ∧ h ≤ (S.take k).countP (hitB n a z) ∧ W = w
theorem hits_next {S : List Int} {n a z : Int} {k : Nat} {s : Int} (hx : S[k]? = some s) : (S.take (k + 1)).countP (hitB n a z) = (S.take k).countP (hitB n a z) + (if hitB n a z s = true then 1 else 0) := by
  rw [take_snoc hx, List.countP_append, List.countP_singleton]
theorem good_one {l : List Int} (h : ∀ y ∈ l, 0 ≤ y ∧ y ≤ 40000) : Good (l.take 1) := by
  cases l with
  | nil => exact good_nil
  | cons x t =>
    refine ⟨fun y hy => ?_, by simp⟩
    have : y = x := by simpa using hy
    subst this
    have := h y List.mem_cons_self
    omega
set_option maxRecDepth 100000 in
set_option maxHeartbeats 16000000 in
theorem mosts {A1 A2 : Option Addr} {c1 c2 n1 n2 : Nat} {la lb : List Int} (b gp a v : Int) (w : World) (h1 : Smalls w A1 c1 la) (hn1 : la.length = n1) (h2 : Smalls w A2 c2 lb) (hn2 : lb.length = n2)
    (b0 : 0 ≤ b) (g0 : 0 ≤ gp) (g1 : gp < 256) (a0 : 0 ≤ a) (a1 : a < 65536) (v0 : 0 ≤ v) (v1 : v < 65536) :
    Calls Try.prog 5 #[.slice A1 n1 c1, .slice A2 n2 c2, .int .u8 b, .int .u8 gp, .int .u16 a, .int .u16 v] w (Woke w) := by
  have KA := Lib.hid (fun W => awake W)
  by_cases hl : n1 ≤ 60
  · have t1 : decide ((60 : Int) < (n1 : Int)) = false := by simp; omega
    have t1' : decide (60 < n1) = false := by simp; omega
    have H1 := Lib.hid h1
    have H2 := Lib.hid h2
    have e0 := Int.emod_nonneg b (b := 9) (by omega)
    have e1 := Int.emod_lt_of_pos b (b := 9) (by omega)
    have etd : b.tmod 9 = b % 9 := Int.tmod_eq_emod_of_nonneg (by omega)
    generalize b % 9 = r at *
    obtain ⟨nn, hnn⟩ : ∃ nn, 1 + r = nn := ⟨_, rfl⟩
    obtain ⟨gg, hgg⟩ : ∃ gg, 1 + gp = gg := ⟨_, rfl⟩
    obtain ⟨z, hz⟩ : ∃ z, a + v = z := ⟨_, rfl⟩
    have n0 : 1 ≤ nn := by omega
    have n9 : nn ≤ 9 := by omega
    have gg0 : 1 ≤ gg := by omega
    have gg1 : gg ≤ 256 := by omega
    have haz : a ≤ z := by omega
    have hz1 : z < 131072 := by omega
    have hzv : z - a = v := by omega
    have HZV := Lib.hid hzv
    clear hzv h1 h2
    go_enter Try.func5, Try.ntmps5
    go_wp2_with (fail)
    with_reducible refine (KA.out _).mono ?_
    rintro e w1 ⟨rfl, hb1⟩
    have HB1 := Lib.hid hb1
    have KMd : Hid (Calls Try.prog 21 #[.slice A1 n1 c1, .slice A2 n2 c2, .int .i64 nn, .int .i64 gg] w1 (Makes w1)) := Lib.hid (made nn gg (H1.out.tells hb1) hn1 hl (H2.out.tells hb1) hn2 gg0 gg1)
    clear hb1 KA H1 H2
    go_wp2_with (fail)
    with_reducible refine KMd.out.mono ?_
    rintro e w2 ⟨l, hf, v2, rfl, ho, hb2⟩
    obtain ⟨_, A, c, rfl, hI⟩ := own_ints ho
    have HI := Lib.hid hI
    have HB2 := Lib.hid (HB1.out.trans (hb2.mono HB1.out.size))
    have HF := Lib.hid hf.2
    have hln := hf.1
    clear ho hI hb2 hf KMd
    obtain ⟨n, hn⟩ : ∃ n, l.length = n := ⟨_, rfl⟩
    rw [hn] at hln ⊢
    go_wp2
    go_loopw [16] (fun i W => RiseRel l w2 i W) (fun i _ => n - (intOf i).toNat)
    case atStart => exact ⟨1, 0, by omega, .inl rfl, rfl, good_one HF.out, rfl⟩
    case round =>
      obtain ⟨k, m, hk1, hk, rfl, hg, rfl⟩ := hrel
      have HG := Lib.hid hg
      clear hg
      by_cases hlt : k < n
      · have t2 : decide ((k : Int) < (n : Int)) = true := by simp; omega
        have hx : l[k]? = some (l[k]'(by omega)) := List.getElem?_eq_getElem (by omega)
        have hy : l[k - 1]? = some (l[k - 1]'(by omega)) := List.getElem?_eq_getElem (by omega)
        obtain ⟨x0, x1⟩ := HF.out _ (List.mem_of_getElem? hx)
        obtain ⟨b4, o4, rfl, hb4, hcx⟩ := HI.out.at_ hx
        obtain ⟨b5, o5, e5, _, hcy⟩ := HI.out.at_ hy
        cases e5
        have cx := hcx w2 (Below.refl _ _)
        have cy := hcy w2 (Below.refl _ _)
        have HX := Lib.hid (fun (hp : 0 < k → ∀ y, l[k - 1]? = some y → y < l[k]'(by omega)) => good_next HG.out hx (by omega) (by omega) hp)
        have HY := Lib.hid hy
        clear hx hy hcx hcy
        generalize l[k]'_ = x at *
        generalize l[k - 1]'_ = y at *
        by_cases h3 : x ≤ y
        · have t3 : decide (x ≤ y) = true := decide_eq_true h3
          go_wp2
          go_quiet (fail)
          go_wp2
          go_ret
          exact ⟨rfl, below_drewN (below_drewN HB2.out _) _⟩
        · have t3 : decide (x ≤ y) = false := decide_eq_false h3
          have HX2 := Lib.hid (HX.out (fun _ q hq => by rw [HY.out] at hq; cases hq; omega))
          clear HX HY
          go_wp2
          go_quiet (fail)
          go_wp2
          go_roundw
          case rel => exact ⟨k + 1, _, by omega, .inr (by omega), by go_num, HX2.out, rfl⟩
          case measure => simp [intOf]; omega
      · have t2 : decide ((k : Int) < (n : Int)) = false := by simp; omega
        have t2' : decide (k < n) = false := by simp; omega
        have HGL : Hid (Good l) := Lib.hid (by have := HG.out; rwa [List.take_of_length_le (by omega)] at this)
        clear HG
        obtain ⟨Y, hY⟩ : ∃ Y, Y = w2.drewN m := ⟨_, rfl⟩
        have HIY : Hid (Ints Y A c l) := Lib.hid (by rw [hY]; exact HI.out.drewN m)
        have HBY : Hid (Below w.heap.size w Y) := Lib.hid (by rw [hY]; exact below_drewN HB2.out m)
        rw [← hY]
        clear hY HI HB2 HB1
        have KL : Hid (Calls Try.prog 16 #[.slice A n c, .int .i64 nn, .int .i64 gg] Y (Gives (.bool (decide (gg ≤ gapF nn l))) Y)) := Lib.hid (legal nn gg HIY.out hn (by omega) HGL.out.1 n0 (by omega) gg0 (by omega))
        by_cases hleg : gg ≤ gapF nn l
        · rw [decide_eq_true hleg] at KL
          go_wp2_with (fail)
          with_reducible refine KL.out.mono ?_
          rintro e w4 ⟨rfl, hb4⟩
          have HB4 := Lib.hid (HBY.out.trans (hb4.mono HBY.out.size))
          have HI4 := Lib.hid (HIY.out.tells hb4)
          have KS := Lib.hid (starts nn HI4.out hn (by omega) HGL.out.1 n0 (by omega))
          clear hb4 KL HBY HIY
          have HA := Lib.hid (starts_apart nn l)
          have HS : Hid (∀ x ∈ startsF nn l, 0 ≤ x ∧ x ≤ 40000) := Lib.hid (fun x hx => HF.out x (starts_sub hx))
          have hap : Apart gg (startsF nn l) := ((le_gapL _ _ _).1 hleg).2
          have HM1 := Lib.hid (hits_most hap n0 gg0 haz)
          have HM2 := Lib.hid (faults_most HGL.out.2 n0 gg0 haz hap)
          rw [HZV.out] at HM1 HM2
          have hm0 := mostF_nonneg (w := v) (b := nn) (g := gg) v0 n0 gg0
          have hm1 := mostF_most (w := v) (b := nn) (g := gg) v0 n0 gg0
          have KM := Lib.hid (fun W => most v nn gg W v0 (by omega) n0 (by omega) gg0 (by omega))
          clear hap hleg HGL HF
          generalize mostF v nn gg = M at *
          have hp0 : 0 ≤ nn * M := Int.mul_nonneg (by omega) hm0
          have hp1 : nn * M ≤ 9 * M := Int.mul_le_mul_of_nonneg_right n9 hm0
          have hSn : (startsF nn l).length ≤ 3000 := by have := starts_len nn l; omega
          generalize startsF nn l = S at *
          go_wp2_with (fail)
          with_reducible refine KS.out.mono ?_
          rintro e w3 ⟨v3, rfl, ho, hb3⟩
          obtain ⟨_, A3, c3, rfl, hI3⟩ := own_ints ho
          have HI3 := Lib.hid hI3
          have HI5 := Lib.hid (HI4.out.tells hb3)
          have HB5 := Lib.hid (HB4.out.trans (hb3.mono HB4.out.size))
          have KI : Hid (∀ x y, Calls Try.prog 18 #[.slice A n c, .int .i64 x, .int .i64 y] w3 (Says (.int .i64 (inF x y l : Nat)) w3)) := Lib.hid (fun x y => in_ x y HI5.out hn (by omega))
          clear ho hI3 hb3 KS HB4 HI4
          obtain ⟨p, hp⟩ : ∃ p, S.length = p := ⟨_, rfl⟩
          rw [hp] at hSn ⊢
          go_wp2
          go_loopw [20, 21] (fun t i W => HitRel S nn a z w3 t i W) (fun _ i _ => p - (intOf i).toNat)
          case atStart => exact ⟨0, 0, by omega, rfl, rfl, by omega, rfl⟩
          case round =>
            obtain ⟨k, h, hk, rfl, rfl, hc, rfl⟩ := hrel
            have HC := Lib.hid hc
            have hhk : h ≤ k := by
              have := List.countP_le_length (p := hitB nn a z) (l := S.take k)
              rw [List.length_take] at this
              omega
            clear hc
            by_cases hlt : k < p
            · have t2 : decide ((k : Int) < (p : Int)) = true := by simp; omega
              have hx : S[k]? = some (S[k]'(by omega)) := List.getElem?_eq_getElem (by omega)
              obtain ⟨x0, x1⟩ := HS.out _ (List.mem_of_getElem? hx)
              obtain ⟨b4, o4, rfl, hb4, hcx⟩ := HI3.out.at_ hx
              have cx := hcx wr (Below.refl _ _)
              have HN := Lib.hid (hits_next (n := nn) (a := a) (z := z) hx)
              clear hcx
              by_cases hk1 : k + 1 < p
              · have t7 : decide ((k : Int) + 1 < (p : Int)) = true := by simp; omega
                have hy : S[k + 1]? = some (S[k + 1]'(by omega)) := List.getElem?_eq_getElem (by omega)
                obtain ⟨y0, y1⟩ := HS.out _ (List.mem_of_getElem? hy)
                obtain ⟨b5, o5, e5, _, hcy⟩ := HI3.out.at_ hy
                cases e5
                have cy := hcy wr (Below.refl _ _)
                have hay := apart_at HA.out hx hy
                clear hy hcy hx
                generalize S[k + 1]'_ = y at *
                generalize S[k]'_ = s at *
                have t8 : decide (y < s + nn) = false := decide_eq_false (by omega)
                by_cases ha : s < a
                · have t3 : decide (s < a) = true := decide_eq_true ha
                  by_cases hz : z < s + nn
                  · have t4 : decide (z < s + nn) = true := decide_eq_true hz
                    by_cases hlh : a < z
                    · have t5 : decide (a < z) = true := decide_eq_true hlh
                      have hhit : hitB nn a z s = true := by simp [hitB]; omega
                      rw [if_pos hhit] at HN
                      have KI1 := Lib.hid (KI.out (a) (z))
                      generalize inF (a) (z) l = q at KI1
                      by_cases hq : 0 < q
                      · have t6 : decide (0 < (q : Int)) = true := by simp; omega
                        have t6' : decide (0 < q) = true := by simp; omega
                        go_wp2_with (fail)
                        with_reducible refine KI1.out.mono ?_
                        rintro e w5 ⟨rfl, rfl⟩
                        go_wp2
                        go_roundw
                        case rel => exact ⟨k + 1, h + 1, by omega, by go_num, by go_num, by have h8 := HN.out; have h9 := HC.out; omega, rfl⟩
                        case measure => simp [intOf]; omega
                      · have t6 : decide (0 < (q : Int)) = false := by simp; omega
                        have t6' : decide (0 < q) = false := by simp; omega
                        go_wp2_with (fail)
                        with_reducible refine KI1.out.mono ?_
                        rintro e w5 ⟨rfl, rfl⟩
                        go_wp2
                        go_roundw
                        case rel => exact ⟨k + 1, h, by omega, by go_num, by go_num, by have h8 := HN.out; have h9 := HC.out; omega, rfl⟩
                        case measure => simp [intOf]; omega
                    · have t5 : decide (a < z) = false := decide_eq_false hlh
                      have hle := HC.out
                      go_wp2
                      go_roundw
                      case rel => exact ⟨k + 1, h, by omega, by go_num, rfl, by have h8 := HN.out; have h9 := HC.out; omega, rfl⟩
                      case measure => simp [intOf]; omega
                  · have t4 : decide (z < s + nn) = false := decide_eq_false hz
                    by_cases hlh : a < s + nn
                    · have t5 : decide (a < s + nn) = true := decide_eq_true hlh
                      have hhit : hitB nn a z s = true := by simp [hitB]; omega
                      rw [if_pos hhit] at HN
                      have KI1 := Lib.hid (KI.out (a) (s + nn))
                      generalize inF (a) (s + nn) l = q at KI1
                      by_cases hq : 0 < q
                      · have t6 : decide (0 < (q : Int)) = true := by simp; omega
                        have t6' : decide (0 < q) = true := by simp; omega
                        go_wp2_with (fail)
                        with_reducible refine KI1.out.mono ?_
                        rintro e w5 ⟨rfl, rfl⟩
                        go_wp2
                        go_roundw
                        case rel => exact ⟨k + 1, h + 1, by omega, by go_num, by go_num, by have h8 := HN.out; have h9 := HC.out; omega, rfl⟩
                        case measure => simp [intOf]; omega
                      · have t6 : decide (0 < (q : Int)) = false := by simp; omega
                        have t6' : decide (0 < q) = false := by simp; omega
                        go_wp2_with (fail)
                        with_reducible refine KI1.out.mono ?_
                        rintro e w5 ⟨rfl, rfl⟩
                        go_wp2
                        go_roundw
                        case rel => exact ⟨k + 1, h, by omega, by go_num, by go_num, by have h8 := HN.out; have h9 := HC.out; omega, rfl⟩
                        case measure => simp [intOf]; omega
                    · have t5 : decide (a < s + nn) = false := decide_eq_false hlh
                      have hle := HC.out
                      go_wp2
                      go_roundw
                      case rel => exact ⟨k + 1, h, by omega, by go_num, rfl, by have h8 := HN.out; have h9 := HC.out; omega, rfl⟩
                      case measure => simp [intOf]; omega
                · have t3 : decide (s < a) = false := decide_eq_false ha
                  by_cases hz : z < s + nn
                  · have t4 : decide (z < s + nn) = true := decide_eq_true hz
                    by_cases hlh : s < z
                    · have t5 : decide (s < z) = true := decide_eq_true hlh
                      have hhit : hitB nn a z s = true := by simp [hitB]; omega
                      rw [if_pos hhit] at HN
                      have KI1 := Lib.hid (KI.out (s) (z))
                      generalize inF (s) (z) l = q at KI1
                      by_cases hq : 0 < q
                      · have t6 : decide (0 < (q : Int)) = true := by simp; omega
                        have t6' : decide (0 < q) = true := by simp; omega
                        go_wp2_with (fail)
                        with_reducible refine KI1.out.mono ?_
                        rintro e w5 ⟨rfl, rfl⟩
                        go_wp2
                        go_roundw
                        case rel => exact ⟨k + 1, h + 1, by omega, by go_num, by go_num, by have h8 := HN.out; have h9 := HC.out; omega, rfl⟩
                        case measure => simp [intOf]; omega
                      · have t6 : decide (0 < (q : Int)) = false := by simp; omega
                        have t6' : decide (0 < q) = false := by simp; omega
                        go_wp2_with (fail)
                        with_reducible refine KI1.out.mono ?_
                        rintro e w5 ⟨rfl, rfl⟩
                        go_wp2
                        go_roundw
                        case rel => exact ⟨k + 1, h, by omega, by go_num, by go_num, by have h8 := HN.out; have h9 := HC.out; omega, rfl⟩
                        case measure => simp [intOf]; omega
                    · have t5 : decide (s < z) = false := decide_eq_false hlh
                      have hle := HC.out
                      go_wp2
                      go_roundw
                      case rel => exact ⟨k + 1, h, by omega, by go_num, rfl, by have h8 := HN.out; have h9 := HC.out; omega, rfl⟩
                      case measure => simp [intOf]; omega
                  · have t4 : decide (z < s + nn) = false := decide_eq_false hz
                    by_cases hlh : s < s + nn
                    · have t5 : decide (s < s + nn) = true := decide_eq_true hlh
                      have hhit : hitB nn a z s = true := by simp [hitB]; omega
                      rw [if_pos hhit] at HN
                      have KI1 := Lib.hid (KI.out (s) (s + nn))
                      generalize inF (s) (s + nn) l = q at KI1
                      by_cases hq : 0 < q
                      · have t6 : decide (0 < (q : Int)) = true := by simp; omega
                        have t6' : decide (0 < q) = true := by simp; omega
                        go_wp2_with (fail)
                        with_reducible refine KI1.out.mono ?_
                        rintro e w5 ⟨rfl, rfl⟩
                        go_wp2
                        go_roundw
                        case rel => exact ⟨k + 1, h + 1, by omega, by go_num, by go_num, by have h8 := HN.out; have h9 := HC.out; omega, rfl⟩
                        case measure => simp [intOf]; omega
                      · have t6 : decide (0 < (q : Int)) = false := by simp; omega
                        have t6' : decide (0 < q) = false := by simp; omega
                        go_wp2_with (fail)
                        with_reducible refine KI1.out.mono ?_
                        rintro e w5 ⟨rfl, rfl⟩
                        go_wp2
                        go_roundw
                        case rel => exact ⟨k + 1, h, by omega, by go_num, by go_num, by have h8 := HN.out; have h9 := HC.out; omega, rfl⟩
                        case measure => simp [intOf]; omega
                    · have t5 : decide (s < s + nn) = false := decide_eq_false hlh
                      have hle := HC.out
                      go_wp2
                      go_roundw
                      case rel => exact ⟨k + 1, h, by omega, by go_num, rfl, by have h8 := HN.out; have h9 := HC.out; omega, rfl⟩
                      case measure => simp [intOf]; omega
              · have t7 : decide ((k : Int) + 1 < (p : Int)) = false := by simp; omega
                have t7' : decide (k + 1 < p) = false := by simp; omega
                clear hx
                generalize S[k]'_ = s at *
                by_cases ha : s < a
                · have t3 : decide (s < a) = true := decide_eq_true ha
                  by_cases hz : z < s + nn
                  · have t4 : decide (z < s + nn) = true := decide_eq_true hz
                    by_cases hlh : a < z
                    · have t5 : decide (a < z) = true := decide_eq_true hlh
                      have hhit : hitB nn a z s = true := by simp [hitB]; omega
                      rw [if_pos hhit] at HN
                      have KI1 := Lib.hid (KI.out (a) (z))
                      generalize inF (a) (z) l = q at KI1
                      by_cases hq : 0 < q
                      · have t6 : decide (0 < (q : Int)) = true := by simp; omega
                        have t6' : decide (0 < q) = true := by simp; omega
                        go_wp2_with (fail)
                        with_reducible refine KI1.out.mono ?_
                        rintro e w5 ⟨rfl, rfl⟩
                        go_wp2
                        go_roundw
                        case rel => exact ⟨k + 1, h + 1, by omega, by go_num, by go_num, by have h8 := HN.out; have h9 := HC.out; omega, rfl⟩
                        case measure => simp [intOf]; omega
                      · have t6 : decide (0 < (q : Int)) = false := by simp; omega
                        have t6' : decide (0 < q) = false := by simp; omega
                        go_wp2_with (fail)
                        with_reducible refine KI1.out.mono ?_
                        rintro e w5 ⟨rfl, rfl⟩
                        go_wp2
                        go_roundw
                        case rel => exact ⟨k + 1, h, by omega, by go_num, by go_num, by have h8 := HN.out; have h9 := HC.out; omega, rfl⟩
                        case measure => simp [intOf]; omega
                    · have t5 : decide (a < z) = false := decide_eq_false hlh
                      have hle := HC.out
                      go_wp2
                      go_roundw
                      case rel => exact ⟨k + 1, h, by omega, by go_num, rfl, by have h8 := HN.out; have h9 := HC.out; omega, rfl⟩
                      case measure => simp [intOf]; omega
                  · have t4 : decide (z < s + nn) = false := decide_eq_false hz
                    by_cases hlh : a < s + nn
                    · have t5 : decide (a < s + nn) = true := decide_eq_true hlh
                      have hhit : hitB nn a z s = true := by simp [hitB]; omega
                      rw [if_pos hhit] at HN
                      have KI1 := Lib.hid (KI.out (a) (s + nn))
                      generalize inF (a) (s + nn) l = q at KI1
                      by_cases hq : 0 < q
                      · have t6 : decide (0 < (q : Int)) = true := by simp; omega
                        have t6' : decide (0 < q) = true := by simp; omega
                        go_wp2_with (fail)
                        with_reducible refine KI1.out.mono ?_
                        rintro e w5 ⟨rfl, rfl⟩
                        go_wp2
                        go_roundw
                        case rel => exact ⟨k + 1, h + 1, by omega, by go_num, by go_num, by have h8 := HN.out; have h9 := HC.out; omega, rfl⟩
                        case measure => simp [intOf]; omega
                      · have t6 : decide (0 < (q : Int)) = false := by simp; omega
                        have t6' : decide (0 < q) = false := by simp; omega
                        go_wp2_with (fail)
                        with_reducible refine KI1.out.mono ?_
                        rintro e w5 ⟨rfl, rfl⟩
                        go_wp2
                        go_roundw
                        case rel => exact ⟨k + 1, h, by omega, by go_num, by go_num, by have h8 := HN.out; have h9 := HC.out; omega, rfl⟩
                        case measure => simp [intOf]; omega
                    · have t5 : decide (a < s + nn) = false := decide_eq_false hlh
                      have hle := HC.out
                      go_wp2
                      go_roundw
                      case rel => exact ⟨k + 1, h, by omega, by go_num, rfl, by have h8 := HN.out; have h9 := HC.out; omega, rfl⟩
                      case measure => simp [intOf]; omega
                · have t3 : decide (s < a) = false := decide_eq_false ha
                  by_cases hz : z < s + nn
                  · have t4 : decide (z < s + nn) = true := decide_eq_true hz
                    by_cases hlh : s < z
                    · have t5 : decide (s < z) = true := decide_eq_true hlh
                      have hhit : hitB nn a z s = true := by simp [hitB]; omega
                      rw [if_pos hhit] at HN
                      have KI1 := Lib.hid (KI.out (s) (z))
                      generalize inF (s) (z) l = q at KI1
                      by_cases hq : 0 < q
                      · have t6 : decide (0 < (q : Int)) = true := by simp; omega
                        have t6' : decide (0 < q) = true := by simp; omega
                        go_wp2_with (fail)
                        with_reducible refine KI1.out.mono ?_
                        rintro e w5 ⟨rfl, rfl⟩
                        go_wp2
                        go_roundw
                        case rel => exact ⟨k + 1, h + 1, by omega, by go_num, by go_num, by have h8 := HN.out; have h9 := HC.out; omega, rfl⟩
                        case measure => simp [intOf]; omega
                      · have t6 : decide (0 < (q : Int)) = false := by simp; omega
                        have t6' : decide (0 < q) = false := by simp; omega
                        go_wp2_with (fail)
                        with_reducible refine KI1.out.mono ?_
                        rintro e w5 ⟨rfl, rfl⟩
                        go_wp2
                        go_roundw
                        case rel => exact ⟨k + 1, h, by omega, by go_num, by go_num, by have h8 := HN.out; have h9 := HC.out; omega, rfl⟩
                        case measure => simp [intOf]; omega
                    · have t5 : decide (s < z) = false := decide_eq_false hlh
                      have hle := HC.out
                      go_wp2
                      go_roundw
                      case rel => exact ⟨k + 1, h, by omega, by go_num, rfl, by have h8 := HN.out; have h9 := HC.out; omega, rfl⟩
                      case measure => simp [intOf]; omega
                  · have t4 : decide (z < s + nn) = false := decide_eq_false hz
                    by_cases hlh : s < s + nn
                    · have t5 : decide (s < s + nn) = true := decide_eq_true hlh
                      have hhit : hitB nn a z s = true := by simp [hitB]; omega
                      rw [if_pos hhit] at HN
                      have KI1 := Lib.hid (KI.out (s) (s + nn))
                      generalize inF (s) (s + nn) l = q at KI1
                      by_cases hq : 0 < q
                      · have t6 : decide (0 < (q : Int)) = true := by simp; omega
                        have t6' : decide (0 < q) = true := by simp; omega
                        go_wp2_with (fail)
                        with_reducible refine KI1.out.mono ?_
                        rintro e w5 ⟨rfl, rfl⟩
                        go_wp2
                        go_roundw
                        case rel => exact ⟨k + 1, h + 1, by omega, by go_num, by go_num, by have h8 := HN.out; have h9 := HC.out; omega, rfl⟩
                        case measure => simp [intOf]; omega
                      · have t6 : decide (0 < (q : Int)) = false := by simp; omega
                        have t6' : decide (0 < q) = false := by simp; omega
                        go_wp2_with (fail)
                        with_reducible refine KI1.out.mono ?_
                        rintro e w5 ⟨rfl, rfl⟩
                        go_wp2
                        go_roundw
                        case rel => exact ⟨k + 1, h, by omega, by go_num, by go_num, by have h8 := HN.out; have h9 := HC.out; omega, rfl⟩
                        case measure => simp [intOf]; omega
                    · have t5 : decide (s < s + nn) = false := decide_eq_false hlh
                      have hle := HC.out
                      go_wp2
                      go_roundw
                      case rel => exact ⟨k + 1, h, by omega, by go_num, rfl, by have h8 := HN.out; have h9 := HC.out; omega, rfl⟩
                      case measure => simp [intOf]; omega
            · have t2 : decide ((k : Int) < (p : Int)) = false := by simp; omega
              have t2' : decide (k < p) = false := by simp; omega
              have hhM : (h : Int) ≤ M := by
                have h1 := HC.out
                rw [List.take_of_length_le (by omega)] at h1
                have h2 := HM1.out
                omega
              have t3 : decide ((h : Int) ≤ M) = true := decide_eq_true hhM
              have KI1 := Lib.hid (KI.out a z)
              generalize inF a z l = q at KI1 HM2
              have hqM : (q : Int) ≤ nn * M := HM2.out
              have t4 : decide ((q : Int) ≤ nn * M) = true := decide_eq_true hqM
              have hwr : IntKind.i64.wrap (nn * M) = nn * M := by rw [IntWalk.i64_in _ ⟨by omega, by omega⟩]
              go_wp2_with (fail)
              with_reducible refine (KM.out _).mono ?_
              rintro e w5 ⟨rfl, rfl⟩
              go_wp2_with (fail)
              with_reducible refine KI1.out.mono ?_
              rintro e w5 ⟨rfl, rfl⟩
              go_wp2
              go_ret
              exact ⟨rfl, HB5.out⟩
        · rw [decide_eq_false hleg] at KL
          have KQ : Hid (∀ W, Below Y.heap.size Y W → Calls Try.prog 17 #[.slice A n c, .int .i64 nn, .int .i64 gg] W (Gives (.bool false) W)) := Lib.hid (fun W hb => by
            have := refLegal nn gg (HIY.out.tells hb) hn (by omega) HGL.out.1 n0 (by omega) (by omega)
            rw [decide_eq_false hleg] at this
            exact this)
          go_wp2_with (fail)
          with_reducible refine KL.out.mono ?_
          rintro e w4 ⟨rfl, hb4⟩
          have HB4 := Lib.hid hb4
          clear hb4
          go_wp2_with (fail)
          with_reducible refine (KQ.out _ HB4.out).mono ?_
          rintro e w5 ⟨rfl, hb5⟩
          have HB5 := Lib.hid (HBY.out.trans ((HB4.out.trans (hb5.mono HB4.out.size)).mono HBY.out.size))
          clear hb5
          go_wp2
          go_ret
          exact ⟨rfl, HB5.out⟩
  · have t1 : decide ((60 : Int) < (n1 : Int)) = true := by simp; omega
    have t1' : decide (60 < n1) = true := by simp; omega
    clear h1 h2
    go_enter Try.func5, Try.ntmps5
    go_wp2_with (fail)
    with_reducible refine (KA.out _).mono ?_
    rintro e w1 ⟨rfl, hb1⟩
    have HB1 := Lib.hid hb1
    clear hb1
    go_wp2_with (fail)
    with_reducible refine (KA.out _).mono ?_
    rintro e w2 ⟨rfl, hb2⟩
    have HB2 := Lib.hid (HB1.out.trans (hb2.mono HB1.out.size))
    clear hb2
    go_wp2
    go_ret
    exact ⟨rfl, HB2.out⟩
end Go.Proofs.Ytckdnnmkookedaa
