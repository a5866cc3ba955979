/- A key is dropped from its place. -/
import Derived.Test.YtblecehmbmbjiaaUe
namespace Go.Proofs.Ytblecehmbmbjiaa
open Go.RowKit

theorem Pl.any {w : World} {p room t : Nat} {l : List Ky} (h : Pl w p room t l) {i : Nat} (hi : i < 1024) :
    ∃ u0 u1 u2 u3, w.cell? ⟨p, 2 + i * 4, none⟩ = some u0 ∧ w.cell? ⟨p, 2 + i * 4 + 1, none⟩ = some u1 ∧ w.cell? ⟨p, 2 + i * 4 + 2, none⟩ = some u2 ∧ w.cell? ⟨p, 2 + i * 4 + 3, none⟩ = some u3 := by
  have ht := h.there hi
  obtain ⟨u0, h0⟩ := Option.isSome_iff_exists.1 (ht 0 (by omega)).1
  obtain ⟨u1, h1⟩ := Option.isSome_iff_exists.1 (ht 1 (by omega)).1
  obtain ⟨u2, h2⟩ := Option.isSome_iff_exists.1 (ht 2 (by omega)).1
  obtain ⟨u3, h3⟩ := Option.isSome_iff_exists.1 (ht 3 (by omega)).1
  exact ⟨u0, u1, u2, u3, h0, h1, h2, h3⟩
/-- The keys without the one at i, the last one in its place. -/
def cutK (l : List Ky) (i m : Nat) : List Ky := (l.set i (kf l m)).take m
theorem length_cut {l : List Ky} {i m : Nat} (h : l.length = m + 1) : (cutK l i m).length = m := by simp [cutK, h]
theorem kf_cut {l : List Ky} {i m : Nat} (hl : l.length = m + 1) {j : Nat} (hj : j < m) : kf (cutK l i m) j = if j = i then kf l m else kf l j := by
  unfold cutK
  by_cases e : j = i
  · subst e
    rw [if_pos rfl]
    exact kf_at (by rw [List.getElem?_take, if_pos hj, List.getElem?_set_self (by omega)])
  · rw [if_neg e]
    refine kf_at ?_
    rw [List.getElem?_take, if_pos hj, List.getElem?_set_ne (Ne.symm e)]
    exact kf_lt (by omega)
theorem cut_perm {l : List Ky} {i m : Nat} (hl : l.length = m + 1) (hi : i < m + 1) : (kf l i :: cutK l i m).Perm l := by
  have h1 := set_perm (kf l m) (kf_lt (l := l) (i := i) (by omega))
  have h2 : l.set i (kf l m) = cutK l i m ++ [kf l m] := by
    have h3 : (l.set i (kf l m))[m]? = some (kf l m) := by
      by_cases e : m = i
      · subst e; rw [List.getElem?_set_self (by omega)]
      · rw [List.getElem?_set_ne (Ne.symm e)]; exact kf_lt (by omega)
    have h4 : l.set i (kf l m) = (l.set i (kf l m)).take (m + 1) := (List.take_of_length_le (by simp [hl])).symm
    rw [h4, List.take_add_one, h3]; rfl
  rw [h2] at h1
  have h5 : (kf l m :: (kf l i :: cutK l i m)).Perm (kf l m :: l) := by
    refine List.Perm.trans ?_ h1
    refine (List.Perm.swap _ _ _).trans (List.Perm.cons _ ?_)
    exact (List.perm_append_singleton _ _).symm
  exact List.Perm.cons_inv h5
theorem cut_ex {l : List Ky} {i m : Nat} (hl : l.length = m + 1) (h : Hp (m + 1) (kf l)) : Ex m (kf (cutK l i m)) i := by
  constructor
  · intro j h0 hj hji hju
    have := up1_lt h0
    rw [kf_cut hl hj, kf_cut hl (by omega), if_neg hji, if_neg hju]
    exact h j h0 (by omega)
  · intro j hi0 h0 hj hu
    have h1 := up1_lt h0
    have h2 := up1_lt hi0
    rw [kf_cut hl hj, kf_cut hl (by omega), if_neg (by omega), if_neg (by omega)]
    exact (h.dns i).2 j hi0 h0 (by omega) hu
theorem cut_hp {l : List Ky} {m : Nat} (hl : l.length = m + 1) (h : Hp (m + 1) (kf l)) : Hp m (kf (cutK l m m)) := by
  intro j h0 hj
  have := up1_lt h0
  rw [kf_cut hl hj, kf_cut hl (by omega), if_neg (by omega), if_neg (by omega)]
  exact h j h0 (by omega)

/-- Behind drop: a heap of the other keys. -/
def Dropped (l : List Ky) (k : Ky) (m p room : Nat) (w : World) (e : Ending) (w' : World) : Prop :=
  ∃ l' : List Ky, e = .returned (.tuple #[]) ∧ l'.length = m ∧ (k :: l').Perm l ∧ Pl w' p room m l' ∧ Turns (fun k => k = p) w w' ∧ Hp m (kf l')

set_option maxRecDepth 100000 in
set_option maxHeartbeats 2000000 in
theorem dropAt {l : List Ky} {i m p room : Nat} {w : World} (h : Pl w p room (m + 1) l) (hlm : l.length = m + 1) (hi : i < m + 1) (hh : Hp (m + 1) (kf l)) :
    Calls Try.prog 26 #[.pointer (some ⟨p, 0, none⟩), .int .i64 (i : Int)] w (Dropped l (kf l i) m p room w) := by
  have hl := h.len
  have HP := Lib.hid h
  have HH := Lib.hid hh
  have HLM := Lib.hid hlm
  have hm : m < 1024 := by omega
  have ct := h.taken_
  have hpl := h.lt
  have cf := h.thawed 1
  have HP1 := Lib.hid (h.count m)
  have HT1 := Lib.hid ((Turns.refl (fun k => k = p) w).setCell (a := ⟨p, 1, none⟩) (.inr rfl) (.int .i64 (m : Int)))
  clear h hh hlm
  go_enter Try.func26, Try.ntmps26
  go_wp2
  generalize w.setCell ⟨p, 1, none⟩ (.int .i64 (m : Int)) = X at HP1 HT1 ⊢
  clear ct cf hpl
  have HKM := Lib.hid (kf_lt (l := l) (i := m) (by rw [HLM.out]; omega))
  have HKI := Lib.hid (kf_lt (l := l) (i := i) (by rw [HLM.out]; omega))
  have HCUT := Lib.hid (show (l.set i (kf l m)).take m = cutK l i m from rfl)
  have HPER := Lib.hid (cut_perm HLM.out hi)
  obtain ⟨x0, x1, x2, x3⟩ := HP1.out.cells HKM.out
  obtain ⟨y0, y1, y2, y3⟩ := HP1.out.cells HKI.out
  have ct := HP1.out.taken_
  have cf := HP1.out.thawed
  have hpl := HP1.out.lt
  have HP2 := Lib.hid (HP1.out.set (kf l m) (i := i) (by rw [HLM.out]; exact hi))
  have HT2 := Lib.hid (turns_setCells (S := fun k => k = p) (g := p) rfl (cellsQ (kf l m)) (2 + i * 4) _ HT1.out)
  generalize kf l m = km at x0 x1 x2 x3 HKM HP2 HT2 HCUT
  generalize kf l i = ki at y0 y1 y2 y3 HKI
  obtain ⟨a0, a1, a2, a3⟩ := km
  simp only at x0 x1 x2 x3
  have i1 : (0 : Int) ≤ (i : Int) := by omega
  have i2 : (i : Int) < 1024 := by omega
  have m1 : (0 : Int) ≤ (m : Int) := by omega
  have m2 : (m : Int) < 1024 := by omega
  go_region
  have HP2' : Hid (Pl ((((X.setCell ⟨p, 2 + i * 4, none⟩ (.int .i64 a0)).setCell ⟨p, 2 + i * 4 + 1, none⟩ (.int .i64 a1)).setCell ⟨p, 2 + i * 4 + 2, none⟩ (.int .i64 a2)).setCell ⟨p, 2 + i * 4 + 3, none⟩ (.int .i64 a3)).drew p room m (l.set i (a0, a1, a2, a3))) := HP2.out.drewN 1
  have HT2' : Hid (Turns (fun k => k = p) w ((((X.setCell ⟨p, 2 + i * 4, none⟩ (.int .i64 a0)).setCell ⟨p, 2 + i * 4 + 1, none⟩ (.int .i64 a1)).setCell ⟨p, 2 + i * 4 + 2, none⟩ (.int .i64 a2)).setCell ⟨p, 2 + i * 4 + 3, none⟩ (.int .i64 a3)).drew) := HT2.out.drewN 1
  generalize ((((X.setCell ⟨p, 2 + i * 4, none⟩ (.int .i64 a0)).setCell ⟨p, 2 + i * 4 + 1, none⟩ (.int .i64 a1)).setCell ⟨p, 2 + i * 4 + 2, none⟩ (.int .i64 a2)).setCell ⟨p, 2 + i * 4 + 3, none⟩ (.int .i64 a3)).drew = Y at HP2' HT2' ⊢
  clear x0 x1 x2 x3 y0 y1 y2 y3 ct cf hpl HP2 HT2 HP1 HT1
  obtain ⟨u0, u1, u2, u3, z0, z1, z2, z3⟩ := HP2'.out.any hm
  have ct := HP2'.out.taken_
  have cf := HP2'.out.thawed
  have hpl := HP2'.out.lt
  have HP3 := Lib.hid (HP2'.out.last m (0, 0, 0, 0))
  rw [HCUT.out] at HP3
  have HT3 := Lib.hid (turns_setCells (S := fun k => k = p) (g := p) rfl (cellsQ (0, 0, 0, 0)) (2 + m * 4) _ HT2'.out)
  go_wp2
  go_region
  have HP3' : Hid (Pl ((((Y.setCell ⟨p, 2 + m * 4, none⟩ (.int .i64 0)).setCell ⟨p, 2 + m * 4 + 1, none⟩ (.int .i64 0)).setCell ⟨p, 2 + m * 4 + 2, none⟩ (.int .i64 0)).setCell ⟨p, 2 + m * 4 + 3, none⟩ (.int .i64 0)).drew p room m (cutK l i m)) := HP3.out.drewN 1
  have HT3' : Hid (Turns (fun k => k = p) w ((((Y.setCell ⟨p, 2 + m * 4, none⟩ (.int .i64 0)).setCell ⟨p, 2 + m * 4 + 1, none⟩ (.int .i64 0)).setCell ⟨p, 2 + m * 4 + 2, none⟩ (.int .i64 0)).setCell ⟨p, 2 + m * 4 + 3, none⟩ (.int .i64 0)).drew) := HT3.out.drewN 1
  generalize ((((Y.setCell ⟨p, 2 + m * 4, none⟩ (.int .i64 0)).setCell ⟨p, 2 + m * 4 + 1, none⟩ (.int .i64 0)).setCell ⟨p, 2 + m * 4 + 2, none⟩ (.int .i64 0)).setCell ⟨p, 2 + m * 4 + 3, none⟩ (.int .i64 0)).drew = Z at HP3' HT3' ⊢
  clear z0 z1 z2 z3 ct cf hpl HP3 HT3 HP2' HT2'
  have ct := HP3'.out.taken_
  have hpl := HP3'.out.lt
  by_cases him : i < m
  · have t1 : decide ((i : Int) < (m : Int)) = true := by simp; omega
    have HLC := Lib.hid (length_cut (i := i) HLM.out)
    have HS := Lib.hid (settleAt (l := cutK l i m) (i := i) (p := p) (room := room) (w := Z) (by rw [HLC.out]; exact HP3'.out) (by rw [HLC.out]; exact him) (by rw [HLC.out]; exact cut_ex HLM.out HH.out))
    go_wp2_with (fail)
    with_reducible refine HS.out.mono ?_
    rintro e w2 ⟨l2, rfl, hp2, hl2, ht2, hh2⟩
    have hln := hp2.length_eq
    rw [HLC.out] at hl2 hh2 hln
    have HF : Hid (Dropped l (kf l i) m p room w (.returned (.tuple #[])) w2) := ⟨l2, rfl, hln, (hp2.cons _).trans HPER.out, hl2, turns_same HT3'.out ht2, hh2⟩
    clear hp2 hl2 ht2 hh2 hln ct
    go_wp2
    go_end0
    exact HF.out
  · have t1 : decide ((i : Int) < (m : Int)) = false := by simp; omega
    have t1' : decide (i < m) = false := by simp; omega
    obtain rfl : i = m := by omega
    have HF : Hid (Dropped l (kf l i) i p room w (.returned (.tuple #[])) Z) := ⟨cutK l i i, rfl, length_cut HLM.out, HPER.out, HP3'.out, HT3'.out, cut_hp HLM.out HH.out⟩
    go_wp2
    go_end0
    exact HF.out
end Go.Proofs.Ytblecehmbmbjiaa
