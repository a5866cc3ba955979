/- Where a name stands among those that are sorted: by halving. -/
import Derived.Test.YtfendnccnhmllaaIx
namespace Go.Proofs.Ytfendnccnhmllaa
open Go.RowKit

def PlRel (xs : List ByteArray) (s : ByteArray) (w : World) (lo hi : Value) (W : World) : Prop :=
  ∃ l h m : Nat, l ≤ h ∧ h ≤ xs.length ∧ lo = .int .i64 (l : Int) ∧ hi = .int .i64 (h : Int) ∧ W = w.drewN m ∧ (∀ i y, i < l → (srt xs)[i]? = some y → lt y s = true) ∧ (∀ i y, h ≤ i → (srt xs)[i]? = some y → lt y s = false)

set_option maxRecDepth 100000 in
set_option maxHeartbeats 2000000 in
theorem place {S : Nat → Prop} {B p room : Nat} {xs : List ByteArray} {w : World} (s : ByteArray) (b : Bool) (hb : b = true ↔ s ∈ xs) (h : Idx S B w p room xs) :
    Calls Try.prog 20 #[.pointer (some ⟨p, 0, none⟩), .string s] w (Saw (.tuple #[.int .i64 (pos s (srt xs) : Int), .bool b]) w) := by
  obtain ⟨vn, vr, rows, hp, hn, hr, ht, _, _⟩ := h.body
  have hlen := h.len
  have hroom := h.r2
  obtain ⟨a, cap, rfl, hcap, hat⟩ := own_form hr
  have c2 : w.cell? ⟨p, 2, none⟩ = some (.slice a xs.length cap) := by rw [hp.cell]; rfl
  have hrl := ht.len
  have HT := Lib.hid ht
  have HAT := Lib.hid hat
  have HB := Lib.hid hb
  clear hp hn hr ht h hat hb
  go_enter Try.func20, Try.ntmps20
  go_wp2
  go_quiet (fail)
  go_wp2
  go_loopw [6, 7] (fun lo hi W => PlRel xs s w lo hi W) (fun lo hi _ => (intOf hi).toNat - (intOf lo).toNat)
  case atStart => exact ⟨0, xs.length, nq, Nat.zero_le _, Nat.le_refl _, rfl, rfl, rfl, fun i y hi => by omega, fun i y hi hy => by
    have := (List.getElem?_eq_some_iff.1 hy).1
    rw [length_srt] at this
    omega⟩
  case round =>
    obtain ⟨l, u, m, hlu, hu, rfl, rfl, rfl, h1, h2⟩ := hrel
    have H1 := Lib.hid h1
    have H2 := Lib.hid h2
    clear h1 h2
    by_cases hlt : l < u
    · have t1 : decide ((l : Int) < (u : Int)) = true := by simp; omega
      obtain ⟨k, hk⟩ : ∃ k, k = (l + u) / 2 := ⟨_, rfl⟩
      have hk1 : l ≤ k := by omega
      have hk2 : k < u := by omega
      have hq : ((l : Int) + (u : Int)) / 2 = (k : Int) := by omega
      clear hk
      obtain ⟨g, rfl, hc⟩ := HAT.out (by omega)
      have hr : rows[k]? = some rows[k] := List.getElem?_eq_getElem (by omega)
      have ck := hc _ _ (flat_name hr)
      have hsk := HT.out.at_ hr
      clear hc
      have HSK := Lib.hid hsk
      clear hsk hr
      generalize rows[k].1 = y at ck HSK
      cases hl : lt y s with
      | true =>
        have t2 : Op.bytesLess y.toList s.toList = true := hl
        have HN : Hid (∀ i z, i < k + 1 → (srt xs)[i]? = some z → lt z s = true) := fun i z hi hz => by
          by_cases hik : i = k
          · subst hik
            rw [HSK.out] at hz
            cases hz
            exact hl
          · exact lt_trans (rising_at (rising_srt HT.out.nodup) hz HSK.out (by omega)) hl
        clear hl
        go_wp2
        go_roundw
        case rel => exact ⟨k + 1, u, m, by omega, hu, by go_num, rfl, rfl, HN.out, H2.out⟩
        case measure => simp [intOf]; omega
      | false =>
        have t2 : Op.bytesLess y.toList s.toList = false := hl
        have HN : Hid (∀ i z, k ≤ i → (srt xs)[i]? = some z → lt z s = false) := fun i z hi hz => by
          by_cases hik : i = k
          · subst hik
            rw [HSK.out] at hz
            cases hz
            exact hl
          · cases hc : lt z s with
            | false => rfl
            | true =>
              rw [lt_trans (rising_at (rising_srt HT.out.nodup) HSK.out hz (by omega)) hc] at hl
              cases hl
        clear hl
        go_wp2
        go_roundw
        case rel => exact ⟨l, k, m, by omega, by omega, rfl, by first | rfl | (rw [hq]), rfl, H1.out, HN.out⟩
        case measure => simp [intOf]; omega
    · have t1 : decide ((l : Int) < (u : Int)) = false := by simp; omega
      have t1' : decide (l < u) = false := by simp; omega
      obtain rfl : l = u := by omega
      have hpos : pos s (srt xs) = l := pos_eq (by rw [length_srt]; exact hu) H1.out (fun y hy => H2.out l y (Nat.le_refl _) hy)
      have HP := Lib.hid hpos
      clear hpos
      by_cases hend : l < xs.length
      · have t2 : decide ((l : Int) < (xs.length : Int)) = true := by simp; omega
        obtain ⟨g, rfl, hc⟩ := HAT.out (by omega)
        have hr : rows[l]? = some rows[l] := List.getElem?_eq_getElem (by omega)
        have ck := hc _ _ (flat_name hr)
        have hbb : (rows[l].1.toList == s.toList) = b := by
          by_cases he : rows[l].1 = s
          · rw [text_eq he, HB.out.2 (he ▸ HT.out.mem (List.mem_of_getElem? hr))]
          · rw [text_ne he]
            cases hb : b with
            | false => rfl
            | true =>
              obtain ⟨j, hj, _⟩ := HT.out.hit (HB.out.1 hb)
              rw [HP.out, hr] at hj
              exact absurd (congrArg Prod.fst (Option.some.inj hj)) he
        clear hc hr
        generalize rows[l].1 = y at ck hbb
        go_wp2
        go_quiet (fail)
        go_wp2
        go_ret2
        exact ⟨by rw [HP.out]; rfl, _, World.drewN_drewN _ _ _⟩
      · have t2 : decide ((l : Int) < (xs.length : Int)) = false := by simp; omega
        have t2' : decide (l < xs.length) = false := by simp; omega
        have hbf : b = false := by
          cases hb : b with
          | false => rfl
          | true =>
            obtain ⟨j, hj, _⟩ := HT.out.hit (HB.out.1 hb)
            rw [HP.out] at hj
            have := (List.getElem?_eq_some_iff.1 hj).1
            omega
        subst hbf
        go_wp2
        go_quiet (fail)
        go_wp2
        go_ret2
        exact ⟨by rw [HP.out]; rfl, _, World.drewN_drewN _ _ _⟩
end Go.Proofs.Ytfendnccnhmllaa
