/- The least of a key and those right below it; a key moves down. -/
import Derived.Test.YtblecehmbmbjiaaUd
namespace Go.Proofs.Ytblecehmbmbjiaa
open Go.RowKit

/-- The least of i and those below it that were looked at. -/
def LeastRel (l : List Ky) (i : Nat) (w : World) (m b : Value) (W : World) : Prop :=
  ∃ (q k : Nat), q < l.length ∧ 2 * i + 1 ≤ k ∧ k ≤ 2 * i + 3 ∧ m = .int .i64 (q : Int) ∧ b = .int .i64 (k : Int) ∧ Below w.heap.size w W ∧
    (q = i ∨ (0 < q ∧ up1 q = i ∧ Lt (kf l q) (kf l i))) ∧ (∀ j, 0 < j → j < l.length → up1 j = i → j < k → ¬ Lt (kf l j) (kf l q))
def Leasts (l : List Ky) (i : Nat) (w : World) (e : Ending) (w' : World) : Prop :=
  ∃ q : Nat, q < l.length ∧ e = .returned (.int .i64 (q : Int)) ∧ Below w.heap.size w w' ∧ (q = i ∨ (0 < q ∧ up1 q = i ∧ Lt (kf l q) (kf l i))) ∧ (∀ j, 0 < j → j < l.length → up1 j = i → ¬ Lt (kf l j) (kf l q))

set_option maxRecDepth 100000 in
set_option maxHeartbeats 2000000 in
theorem leastAt {l : List Ky} {i p room : Nat} {w : World} (h : Pl w p room l.length l) (hi : i < l.length) :
    Calls Try.prog 38 #[.pointer (some ⟨p, 0, none⟩), .int .i64 (i : Int)] w (Leasts l i w) := by
  have hl := h.len
  have HP := Lib.hid h
  have hpl := h.lt
  clear h
  go_enter Try.func38, Try.ntmps38
  go_wp2
  go_loopw [5, 6] (fun m b W => LeastRel l i w m b W) (fun _ b _ => (2 * i + 3) - (intOf b).toNat)
  case atStart => exact ⟨i, 2 * i + 1, hi, by omega, by omega, rfl, by go_num, Below.refl _ _, .inl rfl, fun j h0 hj hu hlt => by unfold up1 at hu; omega⟩
  case round =>
    obtain ⟨q, k, hq, hk1, hk2, rfl, rfl, hb, ho, ha⟩ := hrel
    have HB := Lib.hid hb
    have HO := Lib.hid ho
    have HA := Lib.hid ha
    have HPW := Lib.hid (HP.out.below hb HP.out.lt)
    have ct := HPW.out.taken_
    have hplw := HPW.out.lt
    clear hb ho ha
    by_cases h2 : k ≤ 2 * i + 2
    · have t1 : decide ((k : Int) ≤ 2 * (i : Int) + 2) = true := by simp; omega
      have hu : up1 k = i := by unfold up1; omega
      by_cases hlt : k < l.length
      · have t2 : decide ((k : Int) < (l.length : Int)) = true := by simp; omega
        have KL := Lib.hid (lessAt HPW.out (kf_lt hlt) (kf_lt hq))
        by_cases hl2 : Lt (kf l k) (kf l q)
        · rw [lt_iff.2 hl2] at KL
          have HO1 : Hid (k = i ∨ (0 < k ∧ up1 k = i ∧ Lt (kf l k) (kf l i))) := .inr ⟨by omega, hu, by
            rcases HO.out with rfl | ⟨_, _, h⟩
            · exact hl2
            · exact hl2.trans h⟩
          have HA1 : Hid (∀ j, 0 < j → j < l.length → up1 j = i → j < k + 1 → ¬ Lt (kf l j) (kf l k)) := fun j h0 hj hju hjk => by
            by_cases e : j = k
            · subst e; exact Lt.irrefl _
            · exact fun h' => HA.out j h0 hj hju (by omega) (h'.trans hl2)
          clear hl2 hu
          go_wp2_with (fail)
          with_reducible refine KL.out.mono ?_
          rintro e w1 ⟨rfl, hb1⟩
          have HB1 := Lib.hid (HB.out.trans (hb1.mono HB.out.size))
          clear hb1
          go_wp2
          go_roundw
          case rel => exact ⟨k, k + 1, hlt, by omega, by omega, rfl, by go_num, HB1.out, HO1.out, HA1.out⟩
          case measure => simp [intOf]; omega
        · rw [lt_no.2 hl2] at KL
          have HA1 : Hid (∀ j, 0 < j → j < l.length → up1 j = i → j < k + 1 → ¬ Lt (kf l j) (kf l q)) := fun j h0 hj hju hjk => by
            by_cases e : j = k
            · subst e; exact hl2
            · exact HA.out j h0 hj hju (by omega)
          clear hl2 hu
          go_wp2_with (fail)
          with_reducible refine KL.out.mono ?_
          rintro e w1 ⟨rfl, hb1⟩
          have HB1 := Lib.hid (HB.out.trans (hb1.mono HB.out.size))
          clear hb1
          go_wp2
          go_roundw
          case rel => exact ⟨q, k + 1, hq, by omega, by omega, rfl, by go_num, HB1.out, HO.out, HA1.out⟩
          case measure => simp [intOf]; omega
      · have t2 : decide ((k : Int) < (l.length : Int)) = false := by simp; omega
        have t2' : decide (k < l.length) = false := by simp; omega
        have HA1 : Hid (∀ j, 0 < j → j < l.length → up1 j = i → ¬ Lt (kf l j) (kf l q)) := fun j h0 hj hju => HA.out j h0 hj hju (by omega)
        clear hu
        go_wp2
        go_ret
        exact ⟨q, hq, rfl, HB.out, HO.out, HA1.out⟩
    · have t1 : decide ((k : Int) ≤ 2 * (i : Int) + 2) = false := by simp; omega
      have HA1 : Hid (∀ j, 0 < j → j < l.length → up1 j = i → ¬ Lt (kf l j) (kf l q)) := fun j h0 hj hju => HA.out j h0 hj hju (by unfold up1 at hju; omega)
      go_wp2
      go_ret
      exact ⟨q, hq, rfl, HB.out, HO.out, HA1.out⟩

/-- As far as a key went down. -/
def DownRel (l : List Ky) (p room : Nat) (w : World) (v : Value) (W : World) : Prop :=
  ∃ (k : Nat) (lc : List Ky), k < l.length ∧ v = .int .i64 (k : Int) ∧ lc.Perm l ∧ Pl W p room l.length lc ∧ Turns (fun k => k = p) w W ∧ Dns l.length (kf lc) k
/-- Behind it: a heap of the same keys. -/
def Heaped (l : List Ky) (p room : Nat) (w : World) (e : Ending) (w' : World) : Prop :=
  ∃ l' : List Ky, e = .returned (.tuple #[]) ∧ l'.Perm l ∧ Pl w' p room l.length l' ∧ Turns (fun k => k = p) w w' ∧ Hp l.length (kf l')

set_option maxRecDepth 100000 in
set_option maxHeartbeats 2000000 in
theorem goDown {l : List Ky} {i p room : Nat} {w : World} (h : Pl w p room l.length l) (hi : i < l.length) (he : Dns l.length (kf l) i) :
    Calls Try.prog 34 #[.pointer (some ⟨p, 0, none⟩), .int .i64 (i : Int)] w (Heaped l p room w) := by
  have hl := h.len
  have HP := Lib.hid h
  have HE := Lib.hid he
  clear h he
  go_enter Try.func34, Try.ntmps34
  go_wp2
  go_loopw [1] (fun v W => DownRel l p room w v W) (fun v _ => l.length - (intOf v).toNat)
  case atStart => exact ⟨i, l, hi, rfl, List.Perm.refl _, HP.out, Turns.refl _ _, HE.out⟩
  case round =>
    obtain ⟨k, lc, hk, rfl, hperm, hpl, htu, hdn⟩ := hrel
    have HPM := Lib.hid hperm
    have HLN := Lib.hid hperm.length_eq
    have HPL : Hid (Pl wr p room lc.length lc) := by rw [HLN.out]; exact hpl
    have HTU := Lib.hid htu
    have HDN := Lib.hid hdn
    clear hperm hpl htu hdn HP HE
    have KL := Lib.hid (leastAt HPL.out (i := k) (by rw [HLN.out]; exact hk))
    go_wp2_with (fail)
    with_reducible refine KL.out.mono ?_
    rintro e w1 ⟨q, hq, rfl, hb1, ho, ha⟩
    rw [HLN.out] at hq ha
    have HP1 : Hid (Pl w1 p room l.length lc) := by rw [← HLN.out]; exact HPL.out.below hb1 HPL.out.lt
    have HT1 := Lib.hid (turns_same HTU.out (Turns.of_below hb1))
    clear hb1 KL
    rcases ho with rfl | ⟨hq0, hqu, hql⟩
    · have HH : Hid (Hp l.length (kf lc)) := HDN.out.hp ha
      clear ha
      go_wp2
      (try simp only [Exit.inBlock, Exit.then])
      refine bodyPost_ret (results_none rfl _ _ _) rfl ?_
      exact ⟨lc, rfl, HPM.out, HP1.out, HT1.out, HH.out⟩
    · have hkq : k < q := by have := up1_lt hq0; omega
      have t1 : ((q : Int) == (k : Int)) = false := by rw [beq_eq_false_iff_ne]; omega
      have ka : lc[k]? = some (kf lc k) := kf_lt (by rw [HLN.out]; exact hk)
      have qa : lc[q]? = some (kf lc q) := kf_lt (by rw [HLN.out]; exact hq)
      have HSW : Hid (Calls Try.prog 33 #[.pointer (some ⟨p, 0, none⟩), .int .i64 (k : Int), .int .i64 (q : Int)] w1 (Turned p room l.length (swL lc k q) w1)) := swapAt HP1.out ka qa (by omega)
      have HNX : Hid (Dns l.length (kf (swL lc k q)) q) := by
        rw [kf_swL (by rw [HLN.out]; exact hk) (by rw [HLN.out]; exact hq)]
        exact HDN.out.down hq0 hq hqu hql ha
      have HPN : Hid ((swL lc k q).Perm l) := (swL_perm (by rw [HLN.out]; exact hk) (by rw [HLN.out]; exact hq)).trans HPM.out
      clear ka qa ha hqu hql
      generalize swL lc k q = ln at HSW HNX HPN
      go_wp2_with (fail)
      with_reducible refine HSW.out.mono ?_
      rintro e w2 ⟨rfl, hp2, ht2⟩
      have HP2 := Lib.hid hp2
      have HT2 := Lib.hid (turns_same HT1.out ht2)
      clear hp2 ht2
      go_wp2
      go_roundw
      case rel => exact ⟨q, ln, hq, rfl, HPN.out, HP2.out, HT2.out, HNX.out⟩
      case measure => simp [intOf]; omega

set_option maxHeartbeats 400000 in
theorem settleAt {l : List Ky} {i p room : Nat} {w : World} (h : Pl w p room l.length l) (hi : i < l.length) (he : Ex l.length (kf l) i) :
    Calls Try.prog 27 #[.pointer (some ⟨p, 0, none⟩), .int .i64 (i : Int)] w (Heaped l p room w) := by
  have HU := Lib.hid (goUp h hi he)
  clear h he
  go_enter Try.func27, Try.ntmps27
  go_wp2_with (fail)
  with_reducible refine HU.out.mono ?_
  rintro e w1 ⟨l1, rfl, hp1, hl1, ht1, hd1⟩
  have HLN := Lib.hid hp1.length_eq
  have HD := Lib.hid (goDown (l := l1) (i := i) (p := p) (room := room) (w := w1) (by rw [HLN.out]; exact hl1) (by rw [HLN.out]; exact hi) (by rw [HLN.out]; exact hd1))
  have HT1 := Lib.hid ht1
  have HP1 := Lib.hid hp1
  clear hp1 hl1 ht1 hd1
  go_wp2_with (fail)
  with_reducible refine HD.out.mono ?_
  rintro e w2 ⟨l2, rfl, hp2, hl2, ht2, hh2⟩
  rw [HLN.out] at hl2 hh2
  have HF : Hid (Heaped l p room w (.returned (.tuple #[])) w2) := ⟨l2, rfl, hp2.trans HP1.out, hl2, turns_same HT1.out ht2, hh2⟩
  clear hp2 hl2 ht2 hh2
  go_wp2
  go_end0
  exact HF.out
end Go.Proofs.Ytblecehmbmbjiaa
