/- A task's line is put into a builder. -/
import Derived.Test.YtbijgmaeechmoaaDoorBw
import Derived.Test.YtbijgmaeechmoaaDoorKMk
namespace Go.Proofs.YtbijgmaeechmoaaDoor
open Go.RowKit Kx
set_option maxRecDepth 100000

def intsV (ns : List Int) : Array Value := (ns.map fun n => Value.int .i64 n).toArray
/-- It is an int of the machine. -/
def Wide (n : Int) : Prop := -9223372036854775808 ≤ n ∧ n ≤ 9223372036854775807
theorem size_text (l : List UInt8) : (⟨l.toArray⟩ : ByteArray).size = l.length := by show l.toArray.size = _; simp
theorem numsW_len : ∀ (ns : List Int), (∀ n ∈ ns, Wide n) → (numsW ns).length ≤ 22 * ns.length
  | [], _ => by simp [numsW]
  | n :: ns, h => by
    have h1 := Lib.itoa_length_le n (h n (by simp)).1 (h n (by simp)).2
    have h2 := numsW_len ns (fun m hm => h m (by simp [hm]))
    simp [numsW]; omega
def NumRel (B b : Nat) (l : List UInt8) (ns : List Int) (w : World) (i : Value) (W : World) : Prop :=
  ∃ k : Nat, k ≤ ns.length ∧ i = .int .i64 (k : Int) ∧ Bld B b (l ++ numsW (ns.take k)) W ∧ Below B w W ∧ Lib.OthersKept 5 (some b) w W
theorem nums_next {ns : List Int} {k : Nat} (h : k < ns.length) : numsW (ns.take (k + 1)) = numsW (ns.take k) ++ 32 :: Lib.itoa ns[k] := by
  rw [List.take_succ_eq_append_getElem h, numsW_append]
  simp [numsW]

set_option maxHeartbeats 2000000 in
theorem putNumbers (B b nb : Nat) (ns : List Int) (l : List UInt8) (w : World) (h : Bld B b l w) (hn : Lies w nb 3 (intsV ns)) (hne : nb ≠ b) (hr : ∀ n ∈ ns, Wide n) (hlen : l.length + 22 * ns.length ≤ 1000000) (hB : B ≤ w.heap.size) (ht : TabB B w) :
    Calls Tryd.prog 20 #[.pointer (some ⟨b, 0, none⟩), .slice (some ⟨nb, 0, none⟩) ns.length ns.length] w (Wrote (.tuple #[]) B b (l ++ numsW ns) w) := by
  have HN := Lib.hid hn
  have HT := Lib.hid ht
  have H0 := Lib.hid h
  clear hn ht h
  go_enter Tryd.func20, Tryd.ntmps20
  go_wp2
  go_loopw [8] (fun i W => NumRel B b l ns w i W) (fun i _ => ns.length - (intOf i).toNat)
  case atStart => exact ⟨0, by omega, rfl, by simpa [numsW] using H0.out, Below.refl _ _, Lib.OthersKept.refl _ _ _⟩
  case round =>
    obtain ⟨k, hk, rfl, hbd, hbl, hok⟩ := hrel
    have HBL := Lib.hid hbl
    have HOK := Lib.hid hok
    have HBD := Lib.hid hbd
    clear hbd hbl hok
    by_cases hlt : k < ns.length
    · have t1 : decide ((k : Int) < (ns.length : Int)) = true := by simp; omega
      have hs := HBL.out.size
      obtain ⟨n, hn⟩ : ∃ n, n = ns[k] := ⟨_, rfl⟩
      have hw : Wide n := by rw [hn]; exact hr _ (List.getElem_mem _)
      have c0 : wr.cell? ⟨nb, k, none⟩ = some (.int .i64 n) := by
        rw [(HN.out.kept HOK.out hne (by decide)).cell k, hn]
        simp [intsV, hlt]
      have hl1 : (numsW (ns.take k)).length ≤ 22 * k := by
        have := numsW_len (ns.take k) (fun m hm => hr m (List.mem_of_mem_take hm))
        rw [List.length_take, Nat.min_eq_left hk] at this; exact this
      have hl2 : (Lib.itoa n).length ≤ 21 := Lib.itoa_length_le n hw.1 hw.2
      have K1 := Lib.hid (itoa_ n hw.1 hw.2 wr (HT.out.on HBL.out).here)
      have K2 := Lib.hid (fun (w1 : World) (hb : Below wr.heap.size wr w1) => putWord B b _ ⟨(Lib.itoa n).toArray⟩ w1 (HBD.out.on hb) (by rw [size_text]; simp; omega) (by have := hb.size; omega))
      have HE := Lib.hid (show l ++ numsW (ns.take k) ++ 32 :: (Lib.itoa n).toArray.toList = l ++ numsW (ns.take (k + 1)) by rw [nums_next hlt, ← hn]; simp)
      clear hn hw hl1 hl2
      go_wp2_with (fail)
      with_reducible refine K1.out.mono ?_
      rintro e w1 ⟨rfl, hb1⟩
      have KK := Lib.hid (K2.out w1 hb1)
      have H1 := Lib.hid hb1
      clear hb1
      go_wp2_with (fail)
      with_reducible refine KK.out.mono ?_
      rintro e w2 ⟨rfl, h2, hb2, hk2⟩
      have H2 := Lib.hid h2
      have HB2 := Lib.hid (HBL.out.trans ((H1.out.mono (Nat.le_trans hB hs)).trans hb2))
      have HK2 := Lib.hid (HOK.out.trans ((kept_of H1.out).trans hk2))
      clear h2 hb2 hk2
      go_wp2
      go_roundw
      case rel => exact ⟨k + 1, by omega, by go_num, by rw [← HE.out]; exact H2.out, HB2.out, HK2.out⟩
      case measure => simp [intOf]; omega
    · have t1 : decide ((k : Int) < (ns.length : Int)) = false := by simp; omega
      have t1' : decide (k < ns.length) = false := by simp; omega
      have HE := Lib.hid (show ns.take k = ns from List.take_of_length_le (by omega))
      go_wp2
      go_end0
      refine ⟨rfl, ?_, HBL.out, HOK.out⟩
      have := HBD.out
      rw [HE.out] at this
      exact this
/-- Numbers that stand in a row of their own. -/
theorem putRow (B b : Nat) (ns : List Int) (l : List UInt8) (w : World) (h : Bld B b l w) (hr : ∀ n ∈ ns, Wide n) (hlen : l.length + 22 * ns.length ≤ 1000000) (hB : B ≤ w.heap.size) (ht : TabB B w) :
    Calls Tryd.prog 20 #[.pointer (some ⟨b, 0, none⟩), .slice (some ⟨w.heap.size, 0, none⟩) ns.length ns.length] (w.alloc (.cells (intsV ns) 3)) (Wrote (.tuple #[]) B b (l ++ numsW ns) w) := by
  have hb : Below w.heap.size w (w.alloc (.cells (intsV ns) 3)) := (Below.refl _ _).alloc (Nat.le_refl _) _
  refine (putNumbers B b w.heap.size ns l _ (h.on hb) (Lies.made _ _ _) (by have := h.lt; omega) hr hlen (by have := hb.size; omega) (ht.on (hb.mono hB))).mono ?_
  rintro e w' ⟨rfl, h1, h2, h3⟩
  exact ⟨rfl, h1, (hb.mono hB).trans h2, (kept_of hb).trans h3⟩

set_option maxHeartbeats 400000 in
/-- The word of a mode. -/
theorem mode_ (m : Int) (w : World) : Calls Tryd.prog 12 #[.int .i64 m] w (Says (.string ⟨(modeW m).toArray⟩) w) := by
  unfold modeW
  by_cases h1 : m = 1
  · subst h1
    go_enter Tryd.func12, Tryd.ntmps12
    go_wp2
    go_ret
    exact ⟨rfl, rfl⟩
  · have e1 : (m == 1) = false := by simpa using h1
    by_cases h2 : m = 2
    · subst h2
      clear h1 e1
      go_enter Tryd.func12, Tryd.ntmps12
      go_wp2
      go_ret
      exact ⟨rfl, rfl⟩
    · have e2 : (m == 2) = false := by simpa using h2
      by_cases h3 : m = 3
      · subst h3
        clear h1 e1 h2 e2
        go_enter Tryd.func12, Tryd.ntmps12
        go_wp2
        go_ret
        exact ⟨rfl, rfl⟩
      · have e3 : (m == 3) = false := by simpa using h3
        rw [if_neg h1, if_neg h2, if_neg h3]
        go_enter Tryd.func12, Tryd.ntmps12
        go_wp2
        go_ret
        exact ⟨rfl, rfl⟩
end Go.Proofs.YtbijgmaeechmoaaDoor
