/- A key moves up, and down, till no key is less than the one above it. -/
import Derived.Test.YtblecehmbmbjiaaSw
namespace Go.Proofs.Ytblecehmbmbjiaa
open Go.RowKit

theorem turns_same {p : Nat} {w w' w'' : World} (h : Turns (fun k => k = p) w w') (k : Turns (fun k => k = p) w' w'') : Turns (fun k => k = p) w w'' := h.trans k (fun _ _ e => e)

/-- As far as a key went up from i. -/
def UpRel (l : List Ky) (i p room t : Nat) (w : World) (v : Value) (W : World) : Prop :=
  ∃ (k : Nat) (lc : List Ky), k < l.length ∧ v = .int .i64 (k : Int) ∧ lc.Perm l ∧ Pl W p room t lc ∧ Turns (fun k => k = p) w W ∧ ((k = i ∧ Ex l.length (kf lc) i) ∨ Ups l.length (kf lc) k)
/-- Behind up: a heap, but that the key at i may be greater than one below it. -/
def Upped (l : List Ky) (i p room t : Nat) (w : World) (e : Ending) (w' : World) : Prop :=
  ∃ l' : List Ky, e = .returned (.tuple #[]) ∧ l'.Perm l ∧ Pl w' p room t l' ∧ Turns (fun k => k = p) w w' ∧ Dns l.length (kf l') i

set_option maxRecDepth 100000 in
set_option maxHeartbeats 2000000 in
theorem goUp {l : List Ky} {i p room t : Nat} {w : World} (h : Pl w p room t l) (hi : i < l.length) (he : Ex l.length (kf l) i) :
    Calls Try.prog 25 #[.pointer (some ⟨p, 0, none⟩), .int .i64 (i : Int)] w (Upped l i p room t w) := by
  have hl := h.len
  have HP := Lib.hid h
  have HE := Lib.hid he
  clear h he
  go_enter Try.func25, Try.ntmps25
  go_wp2
  go_loopw [1] (fun v W => UpRel l i p room t w v W) (fun v _ => (intOf v).toNat)
  case atStart => exact ⟨i, l, hi, rfl, List.Perm.refl _, HP.out, Turns.refl _ _, .inl ⟨rfl, HE.out⟩⟩
  case round =>
    obtain ⟨k, lc, hk, rfl, hperm, hpl, htu, hor⟩ := hrel
    have HPM := Lib.hid hperm
    have HPL := Lib.hid hpl
    have HTU := Lib.hid htu
    have HOR := Lib.hid hor
    have HLN := Lib.hid hperm.length_eq
    clear hperm hpl htu hor HP HE
    by_cases h0 : 0 < k
    · have t1 : decide ((0 : Int) < (k : Int)) = true := by simp; omega
      have hq : up1 k < k := up1_lt h0
      have HQ := Lib.hid (show ((k : Int) - 1) / 2 = ((up1 k : Nat) : Int) by unfold up1; omega)
      have ha : lc[k]? = some (kf lc k) := kf_lt (by rw [HLN.out]; exact hk)
      have hb : lc[up1 k]? = some (kf lc (up1 k)) := kf_lt (by rw [HLN.out]; omega)
      have KL := Lib.hid (lessAt HPL.out ha hb)
      have HEX : Hid (Ex l.length (kf lc) k) := by
        rcases HOR.out with ⟨rfl, h⟩ | h
        · exact h
        · exact h.ex
      by_cases hlt : Lt (kf lc k) (kf lc (up1 k))
      · rw [lt_iff.2 hlt] at KL
        have HSW : Hid (∀ W, Pl W p room t lc → Calls Try.prog 33 #[.pointer (some ⟨p, 0, none⟩), .int .i64 (k : Int), .int .i64 ((up1 k : Nat) : Int)] W (Turned p room t (swL lc k (up1 k)) W)) := fun W hW => swapAt hW ha hb (by omega)
        have HNX : Hid (Ups l.length (kf (swL lc k (up1 k))) (up1 k)) := by
          rw [kf_swL (by rw [HLN.out]; exact hk) (by rw [HLN.out]; omega)]
          exact HEX.out.up h0 hk hlt
        have HPN : Hid ((swL lc k (up1 k)).Perm l) := (swL_perm (by rw [HLN.out]; exact hk) (by rw [HLN.out]; omega)).trans HPM.out
        clear ha hb hlt
        generalize up1 k = q at hq HQ KL HSW HNX HPN
        generalize swL lc k q = ln at HSW HNX HPN
        go_wp2_with (fail)
        rw [HQ.out]
        with_reducible refine KL.out.mono ?_
        rintro e w1 ⟨rfl, hb1⟩
        have HP1 := Lib.hid (HPL.out.below hb1 HPL.out.lt)
        have HT1 := Lib.hid (turns_same HTU.out (Turns.of_below hb1))
        clear hb1
        go_wp2_with (fail)
        with_reducible refine (HSW.out _ HP1.out).mono ?_
        rintro e w2 ⟨rfl, hp2, ht2⟩
        have HP2 := Lib.hid hp2
        have HT2 := Lib.hid (turns_same HT1.out ht2)
        clear hp2 ht2
        go_wp2
        go_roundw
        case rel => exact ⟨q, ln, by omega, rfl, HPN.out, HP2.out, HT2.out, .inr HNX.out⟩
        case measure => simp [intOf]; omega
      · rw [lt_no.2 hlt] at KL
        have HD : Hid (Dns l.length (kf lc) i) := by
          rcases HOR.out with ⟨rfl, h⟩ | h
          · exact h.dns (fun _ => hlt)
          · exact (h.hp (fun _ => hlt)).dns i
        clear ha hb hlt
        generalize up1 k = q at hq HQ KL
        go_wp2_with (fail)
        rw [HQ.out]
        with_reducible refine KL.out.mono ?_
        rintro e w1 ⟨rfl, hb1⟩
        have HP1 := Lib.hid (HPL.out.below hb1 HPL.out.lt)
        have HT1 := Lib.hid (turns_same HTU.out (Turns.of_below hb1))
        clear hb1
        go_wp2
        (try simp only [Exit.inBlock, Exit.then])
        refine bodyPost_ret (results_none rfl _ _ _) rfl ?_
        exact ⟨lc, rfl, HPM.out, HP1.out, HT1.out, HD.out⟩
    · have t1 : decide ((0 : Int) < (k : Int)) = false := by simp; omega
      have t1' : decide (0 < k) = false := by simp; omega
      have HD : Hid (Dns l.length (kf lc) i) := by
        rcases HOR.out with ⟨rfl, h⟩ | h
        · exact h.dns (fun h' => absurd h' h0)
        · exact (h.hp (fun h' => absurd h' h0)).dns i
      go_wp2
      go_end0
      exact ⟨lc, rfl, HPM.out, HPL.out, HTU.out, HD.out⟩
end Go.Proofs.Ytblecehmbmbjiaa
