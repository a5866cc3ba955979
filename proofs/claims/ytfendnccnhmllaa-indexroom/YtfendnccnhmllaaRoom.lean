/- The walk of the statement on as many names as there is room for. -/
import Derived.Test.YtfendnccnhmllaaNames
import Derived.Laws.BytesString
namespace Go.Proofs.Ytfendnccnhmllaa.Room
open Go.RowKit

/-- The k-th name. -/
def nth (k : Nat) : ByteArray := ⟨#[97, UInt8.ofNat (97 + k % 26), UInt8.ofNat (97 + k / 26)]⟩
theorem conv (k : Nat) (W : World) : (convert 42 9 (.slice (some ⟨W.heap.size, 0, none⟩) 3 3)).run Try.prog (W.alloc (.cells #[.int .u8 97, .int .u8 (97 + (k : Int) % 26), .int .u8 (97 + (k : Int) / 26)] 5)) =
    .ok (.string (nth k)) (W.alloc (.cells #[.int .u8 97, .int .u8 (97 + (k : Int) % 26), .int .u8 (97 + (k : Int) / 26)] 5)) := by
  have h := run_loadCells_list (P := Try.prog) (W.alloc (.cells #[.int .u8 97, .int .u8 (97 + (k : Int) % 26), .int .u8 (97 + (k : Int) / 26)] 5)) ⟨W.heap.size, 0, none⟩ ([97, 97 + (k : Int) % 26, 97 + (k : Int) / 26].map (Value.int .u8)) (fun j u hj => by
    rw [Addr.add_lit, (Lies.made W 5 _).cell, Nat.zero_add, ← Array.getElem?_toList]
    exact hj)
  rw [run_convert_bytes_string _ 42 9 5 _ _ _ Try.underlying42 Try.underlying5 Try.underlying9, run_bytesToString _ _ 3 3 [97, 97 + (k : Int) % 26, 97 + (k : Int) / 26] h]
  have e1 : ((97 : Int) + (k : Int) % 26).toNat = 97 + k % 26 := by omega
  have e2 : ((97 : Int) + (k : Int) / 26).toNat = 97 + k / 26 := by omega
  simp only [List.foldl, e1, e2]
  rfl
theorem nth_nm : ∀ k, k < 60 → nm (nth k) = true := by decide +kernel
theorem nth_inj {i j : Nat} (hi : i < 60) (hj : j < 60) (h : nth i = nth j) : i = j := by
  have h1 : (nth i).data = (nth j).data := by rw [h]
  simp only [nth, Array.mk.injEq, List.cons.injEq, and_true, true_and] at h1
  have e1 := congrArg UInt8.toNat h1.1
  have e2 := congrArg UInt8.toNat h1.2
  simp only [UInt8.toNat_ofNat'] at e1 e2
  omega
theorem nth_zz : ∀ k, k < 60 → nth k ≠ ⟨#[122, 122]⟩ := fun k _ h => by
  have := congrArg ByteArray.size h
  cases this
theorem nm_zz : nm ⟨#[122, 122]⟩ = true := by decide +kernel
/-- The first k names. -/
def names (k : Nat) : List ByteArray := (List.range k).map nth
theorem names_len (k : Nat) : (names k).length = k := by simp [names]
theorem names_next (k : Nat) : names k ++ [nth k] = names (k + 1) := by simp [names, List.range_succ]
theorem names_at {k i : Nat} (h : i < k) : (names k)[i]? = some (nth i) := by simp [names, h]
theorem names_no {k i : Nat} (hi : i < 60) (h : k ≤ i) : nth i ∉ names k := by
  intro hm
  obtain ⟨j, hj, e⟩ := List.mem_map.1 hm
  have := List.mem_range.1 hj
  have := nth_inj (by omega) hi e
  omega
theorem names_zz {k : Nat} (hk : k ≤ 60) : (⟨#[122, 122]⟩ : ByteArray) ∉ names k := by
  intro hm
  obtain ⟨j, hj, e⟩ := List.mem_map.1 hm
  have := List.mem_range.1 hj
  exact nth_zz j (by omega) e

def PutRel (w : World) (p n : Nat) (i : Value) (W : World) : Prop := ∃ k : Nat, k ≤ n ∧ i = .int .i64 (k : Int) ∧ Has w p n (names k) W

set_option maxRecDepth 100000 in
set_option maxHeartbeats 4000000 in
theorem core (r t : Nat) (w : World) (hr : r ≤ 255) (ht : t ≤ 255) : Calls Try.prog 7 #[.int .u8 (r : Int), .int .u8 (t : Int)] w (Woke w) := by
  obtain ⟨n, hn⟩ : ∃ n, n = 1 + r % 60 := ⟨_, rfl⟩
  have h1 : 1 ≤ n := by omega
  have h2 : n ≤ 60 := by omega
  have q1 : 1 + (r : Int) % 60 = (n : Int) := by omega
  have HQ1 := Lib.hid q1
  clear hn q1
  go_enter Try.func7, Try.ntmps7
  go_wp2_with (fail)
  rw [HQ1.out]
  refine (has_new (w0 := w) n (Below.refl _ _) h1 (by omega)).mono ?_
  rintro e w1 ⟨p, rfl, hh⟩
  have H1 := Lib.hid hh
  clear hh
  go_wp2_with (fail)
  refine (awake _).mono ?_
  rintro e w2 ⟨rfl, hb⟩
  have H2 := Lib.hid (H1.out.more hb)
  clear hb
  go_wp2
  go_loopw [8] (fun i W => PutRel w p n i W) (fun i _ => n - (intOf i).toNat)
  case atStart => exact ⟨0, by omega, rfl, H2.out⟩
  case round =>
    obtain ⟨k, hk, rfl, hh⟩ := hrel
    have H3 := Lib.hid hh
    clear hh
    by_cases hlt : k < n
    · have t2 : decide ((k : Int) < (n : Int)) = true := by simp; omega
      go_wp2_with (fail)
      rw [conv k wr]
      have H4 := Lib.hid (H3.out.more ((Below.refl wr.heap.size wr).alloc (Nat.le_refl _) (.cells #[.int .u8 97, .int .u8 (97 + (k : Int) % 26), .int .u8 (97 + (k : Int) / 26)] 5)))
      have HP := Lib.hid (has_put (nth k) (nth_nm k (by omega)) (names_no (by omega) (Nat.le_refl k)) (by rw [names_len]; exact hlt) H4.out)
      rw [names_len, names_next] at HP
      go_wp2_with (fail)
      with_reducible refine HP.out.mono ?_
      rintro e w5 ⟨rfl, hh⟩
      have H5 := Lib.hid hh
      clear hh
      go_wp2
      go_roundw
      case rel => exact ⟨k + 1, by omega, by go_num, H5.out⟩
      case measure => simp [intOf]; omega
    · have t2 : decide ((k : Int) < (n : Int)) = false := by simp; omega
      have t2' : decide (k < n) = false := by simp; omega
      obtain rfl : k = n := by omega
      go_wp2_with (fail)
      with_reducible refine (has_put_full ⟨#[122, 122]⟩ nm_zz (names_zz h2) (names_len _) H3.out).mono ?_
      rintro e w5 ⟨rfl, hh⟩
      have H5 := Lib.hid hh
      clear hh
      obtain ⟨i, hi⟩ : ∃ i, i = t % k := ⟨_, rfl⟩
      have hik : i < k := by rw [hi]; exact Nat.mod_lt _ (by omega)
      have q2 : (t : Int) % (k : Int) = (i : Int) := by rw [hi, Int.natCast_emod]
      have h0' : ¬ ((k : Int) = 0) := by omega
      clear hi
      go_wp2_with (fail)
      rw [conv i w5]
      have H6 := Lib.hid (H5.out.more ((Below.refl w5.heap.size w5).alloc (Nat.le_refl _) (.cells #[.int .u8 97, .int .u8 (97 + (i : Int) % 26), .int .u8 (97 + (i : Int) / 26)] 5)))
      go_wp2_with (fail)
      with_reducible refine (has_find (nth i) i (names_at hik) H6.out).mono ?_
      rintro e w7 ⟨rfl, hh⟩
      have H7 := Lib.hid hh
      clear hh
      go_wp2_with (fail)
      with_reducible refine (has_put_twice (nth i) (nth_nm i (by omega)) (List.mem_of_getElem? (names_at hik)) H7.out).mono ?_
      rintro e w8 ⟨rfl, hh⟩
      have H8 := Lib.hid hh
      clear hh
      go_wp2_with (fail)
      with_reducible refine (has_sorted k (names_len k) H8.out).mono ?_
      rintro e w9 ⟨b, c, rfl, _, hh, _⟩
      have H9 := Lib.hid hh
      clear hh
      go_wp2
      go_ret
      exact ⟨rfl, H9.out.below⟩
end Go.Proofs.Ytfendnccnhmllaa.Room
