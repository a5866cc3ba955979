/- What digits stand for: the program's call and the statements' own. -/
import Derived.Test.YtbijgmaeechmoaaDoorLLf
namespace Go.Proofs.YtbijgmaeechmoaaDoor.Lx
open Go.RowKit

theorem vals_append (n : Nat) : ∀ (a b : List UInt8) , vals n (a ++ b) = vals (vals n a) b := by
  intro a
  induction a generalizing n with
  | nil => intro b; rfl
  | cons c a ih => intro b; exact ih _ b
theorem vals_le (l : List UInt8) : ∀ n, n ≤ vals n l := by
  induction l with
  | nil => intro n; exact Nat.le_refl n
  | cons c l ih =>
    intro n
    exact Nat.le_trans (by omega) (ih (n * 10 + (c.toNat - 48)))
theorem vals_next {ds : List UInt8} {k : Nat} {c : UInt8} (h : ds[k]? = some c) : vals 0 (ds.take (k + 1)) = vals 0 (ds.take k) * 10 + (c.toNat - 48) := by
  rw [List.take_add_one, h, vals_append]; rfl
theorem vals_take (ds : List UInt8) (k : Nat) : vals 0 (ds.take k) ≤ vals 0 ds := by
  have := vals_append 0 (ds.take k) (ds.drop k)
  rw [List.take_append_drop] at this
  rw [this]; exact vals_le _ _
/-- What is answered of digits. -/
def valueV (ds : List UInt8) : Value := if vals 0 ds ≤ most then .tuple #[.int .i64 (vals 0 ds : Nat), .bool true] else .tuple #[.int .i64 0, .bool false]
def ValRel (ds : List UInt8) (w : World) (v i : Value) (W : World) : Prop :=
  ∃ k : Nat, k ≤ ds.length ∧ v = .int .i64 (vals 0 (ds.take k) : Nat) ∧ vals 0 (ds.take k) ≤ most ∧ i = .int .i64 (k : Int) ∧ W = w

set_option maxHeartbeats 1000000 in
theorem valueOf (ds : List UInt8) (b off cap : Nat) (w : World) (hl : ds.length ≤ 1000000) (hd : ∀ x ∈ ds, digitC x = true)
    (hc : ∀ i c, ds[i]? = some c → w.cell? ⟨b, off + i, none⟩ = some (.int .u8 (c.toNat : Int))) :
    Calls Tryd.prog 67 #[.slice (some ⟨b, off, none⟩) ds.length cap] w (Says (valueV ds) w) := by
  have HD := Lib.hid hd
  have HC := Lib.hid hc
  clear hd hc
  go_enter Tryd.func67, Tryd.ntmps67
  go_wp2
  go_loopw [4, 9] (fun v i W => ValRel ds w v i W) (fun _ i _ => ds.length - (intOf i).toNat)
  case atStart => exact ⟨0, by omega, rfl, (by rw [List.take_zero]; exact Nat.zero_le _), rfl, rfl⟩
  case round =>
    obtain ⟨k, hk, rfl, hm, rfl, rfl⟩ := hrel
    by_cases hlt : k < ds.length
    · have t1 : decide ((k : Int) < (ds.length : Int)) = true := by simp; omega
      have hx : ds[k]? = some ds[k] := List.getElem?_eq_getElem hlt
      have ck := HC.out k _ hx
      have hdg := HD.out _ (List.mem_of_getElem? hx)
      have hn := vals_next hx
      generalize ds[k] = c at ck hdg hn hx
      have HX := Lib.hid hx
      clear hx
      have hlo : 48 ≤ c.toNat ∧ c.toNat ≤ 57 := by simpa [digitC] using hdg
      clear hdg
      generalize c.toNat = n at ck hn hlo
      obtain ⟨hlo1, hlo2⟩ := hlo
      obtain ⟨v, hv⟩ : ∃ v, v = vals 0 (ds.take k) := ⟨_, rfl⟩
      rw [← hv] at hn hm ⊢
      have hm' : v ≤ 1099511627776 := hm
      by_cases hov : 1099511627776 < v * 10 + (n - 48)
      · have hov' : (1099511627776 : Int) < (v : Int) * 10 + ((n : Int) - 48) := by omega
        have HV := Lib.hid (show valueV ds = .tuple #[.int .i64 0, .bool false] by
          unfold valueV
          rw [if_neg]
          have h1 := vals_take ds (k + 1)
          rw [hn] at h1
          unfold most
          omega)
        clear hn hv
        go_wp2
        go_ret2
        exact ⟨by rw [HV.out]; rfl, rfl⟩
      · have hov' : ¬ (1099511627776 : Int) < (v : Int) * 10 + ((n : Int) - 48) := by omega
        have HN := Lib.hid hn
        clear hn hv
        go_wp2
        go_roundw
        case rel => exact ⟨k + 1, by omega, by rw [HN.out]; congr 1; omega, by rw [HN.out]; unfold most; omega, by go_num, rfl⟩
        case measure => simp [intOf]; omega
    · have t1 : decide ((k : Int) < (ds.length : Int)) = false := by simp; omega
      have t1' : decide (k < ds.length) = false := by simp; omega
      have HV := Lib.hid (show valueV ds = .tuple #[.int .i64 (vals 0 (ds.take k) : Nat), .bool true] by
        rw [List.take_of_length_le (by omega)] at hm ⊢
        unfold valueV
        rw [if_pos hm])
      go_wp2
      go_ret2
      exact ⟨by rw [HV.out]; rfl, rfl⟩

end Go.Proofs.YtbijgmaeechmoaaDoor.Lx
