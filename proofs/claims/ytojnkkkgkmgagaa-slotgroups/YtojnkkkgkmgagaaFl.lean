/- A group's slots of one length that fill a stretch from behind: what is plain of them. -/
import Derived.Test.YtojnkkkgkmgagaaAw
namespace Go.Proofs.Ytojnkkkgkmgagaa

theorem u8_of {a : Int} (h : (Lit.int .u8 a).wf = true) : 0 ≤ a ∧ a < 256 := by
  have h' : IntKind.u8.min ≤ a ∧ a ≤ IntKind.u8.max := by simpa [Lit.wf] using h
  have e1 : IntKind.u8.min = 0 := rfl
  have e2 : IntKind.u8.max = 255 := rfl
  omega
theorem u16_of {a : Int} (h : (Lit.int .u16 a).wf = true) : 0 ≤ a ∧ a < 65536 := by
  have h' : IntKind.u16.min ≤ a ∧ a ≤ IntKind.u16.max := by simpa [Lit.wf] using h
  have e1 : IntKind.u16.min = 0 := rfl
  have e2 : IntKind.u16.max = 65535 := rfl
  omega
/-- The first i of them. -/
def fillL (n e : Int) : Nat → List Ky
  | 0 => []
  | i + 1 => ((i : Int), 1, e - ((i : Int) + 1) * n, e - (i : Int) * n) :: fillL n e i
theorem fill_mem {n e : Int} {s : Ky} : ∀ {i : Nat}, s ∈ fillL n e i ↔ ∃ j : Nat, j < i ∧ s = ((j : Int), 1, e - ((j : Int) + 1) * n, e - (j : Int) * n)
  | 0 => by simp [fillL]
  | i + 1 => by
    rw [fillL, List.mem_cons, fill_mem]
    constructor
    · rintro (rfl | ⟨j, hj, rfl⟩)
      · exact ⟨i, by omega, rfl⟩
      · exact ⟨j, by omega, rfl⟩
    · rintro ⟨j, hj, rfl⟩
      by_cases h : j = i
      · subst h; exact .inl rfl
      · exact .inr ⟨j, by omega, rfl⟩
theorem fill_length (n e : Int) : ∀ i, (fillL n e i).length = i
  | 0 => rfl
  | i + 1 => by simp [fillL, fill_length n e i]
theorem fill_ids {n e : Int} {i : Nat} {id : Int} (h : (i : Int) ≤ id) : id ∉ (fillL n e i).map idK := ids_none.1 fun s hs => by
  obtain ⟨j, hj, rfl⟩ := fill_mem.1 hs
  simp only [idK]
  omega
theorem mul_mono {i j n : Int} (h : i ≤ j) (hn : 0 ≤ n) : i * n ≤ j * n := Int.mul_le_mul_of_nonneg_right h hn
theorem fill_lat {n e : Int} {i : Nat} (hn : 1 ≤ n) (hg : Good (fillL n e i)) : lat (fillL n e i) 1 n e = e - ((i : Int) + 1) * n := by
  refine lat_eq hn hg ?_ ?_ ?_
  · have := mul_mono (i := 0) (j := (i : Int)) (n := n) (by omega) (by omega)
    rw [Int.add_mul]; omega
  · intro s hs _
    obtain ⟨j, hj, rfl⟩ := fill_mem.1 hs
    right
    simp only
    have := mul_mono (i := (j : Int) + 1) (j := (i : Int)) (n := n) (by omega) (by omega)
    rw [Int.add_mul (i : Int)]; omega
  · intro y h1 h2
    have hd0 : 0 ≤ e - n - y := by omega
    have hq := Int.mul_ediv_add_emod (e - n - y) n
    have hm1 := Int.emod_nonneg (e - n - y) (show n ≠ 0 by omega)
    have hm2 := Int.emod_lt_of_pos (e - n - y) (show 0 < n by omega)
    have hq0 : 0 ≤ (e - n - y) / n := Int.ediv_nonneg hd0 (by omega)
    obtain ⟨j, hj⟩ : ∃ j : Nat, (e - n - y) / n = (j : Int) := ⟨((e - n - y) / n).toNat, by omega⟩
    rw [hj, Int.mul_comm] at hq
    have hji : j < i := by
      rcases Nat.lt_or_ge j i with h | h
      · exact h
      · have := mul_mono (i := (i : Int)) (j := (j : Int)) (n := n) (by omega) (by omega)
        rw [Int.add_mul] at h1
        omega
    refine ⟨_, fill_mem.2 ⟨j, hji, rfl⟩, fun hf => ?_⟩
    have := hf rfl
    simp only at this
    rw [Int.add_mul] at this
    omega
theorem fill_lat2 {n e : Int} {i : Nat} (hn : 1 ≤ n) (hg : Good (fillL n e i)) : lat (fillL n e i) 2 n e = e - n := by
  refine lat_eq hn hg (by omega) ?_ (fun y h1 h2 => by omega)
  intro s hs h
  obtain ⟨j, hj, rfl⟩ := fill_mem.1 hs
  simp only at h
  omega
theorem fill_put {n e : Int} {i : Nat} (hn : 1 ≤ n) : putK (fillL n e i) ((i : Int), 1, e - ((i : Int) + 1) * n, e - ((i : Int) + 1) * n + n) = fillL n e (i + 1) := by
  have e1 : e - ((i : Int) + 1) * n + n = e - (i : Int) * n := by rw [Int.add_mul]; omega
  rw [e1]
  cases i with
  | zero => rfl
  | succ i =>
    rw [fillL, put_cons_no]
    · rfl
    · rw [lt_no]
      unfold Lt
      simp only
      have : ((((i + 1 : Nat) : Int)) + 1) * n = ((i : Int) + 1) * n + n := by rw [show (((i + 1 : Nat) : Int)) = (i : Int) + 1 by omega, Int.add_mul ((i : Int) + 1)]; omega
      rw [this]
      omega
theorem fill_res {n a e : Int} {i : Nat} (hn : 1 ≤ n) (hn2 : n ≤ 20) (ha : 0 ≤ a) (he : e ≤ 100000) (hi : i < 256) (hg : Good (fillL n e i)) (hfit : ((i : Int) + 1) * n ≤ e - a) :
    resE 256 (fillL n e i) (i : Int) 1 n a e = 0 ∧ resP 256 (fillL n e i) (i : Int) 1 n a e = e - ((i : Int) + 1) * n ∧ resM 256 (fillL n e i) (i : Int) 1 n a e = fillL n e (i + 1) := by
  have h0 := mul_mono (i := 0) (j := (i : Int) + 1) (n := n) (by omega) (by omega)
  have hE : resE 256 (fillL n e i) (i : Int) 1 n a e = 0 := by
    unfold resE
    rw [if_pos (rgt_iff.2 ⟨hn, by omega, ha, by omega, by omega⟩), if_neg (fill_ids (Int.le_refl _)), if_neg (by rw [fill_length]; omega), if_neg (by rw [fill_lat hn hg]; omega)]
  refine ⟨hE, ?_, ?_⟩
  · unfold resP; rw [if_pos hE, fill_lat hn hg]
  · unfold resM; rw [if_pos hE, fill_lat hn hg, fill_put hn]
theorem fill_over {n a e : Int} {i : Nat} (hn : 1 ≤ n) (hn2 : n ≤ 20) (ha : 0 ≤ a) (hae : a ≤ e) (he : e ≤ 100000) (hi : i < 256) (hg : Good (fillL n e i)) (hfit : e - a < ((i : Int) + 1) * n) :
    resE 256 (fillL n e i) 999 1 n a e = 4 ∧ resM 256 (fillL n e i) 999 1 n a e = fillL n e i := by
  have hE : resE 256 (fillL n e i) 999 1 n a e = 4 := by
    unfold resE
    rw [if_pos (rgt_iff.2 ⟨hn, by omega, ha, by omega, by omega⟩), if_neg (fill_ids (by omega)), if_neg (by rw [fill_length]; omega), if_pos (by rw [fill_lat hn hg]; omega)]
  refine ⟨hE, ?_⟩
  unfold resM; rw [hE]; rfl
theorem fill_other {n a e : Int} {i : Nat} (hn : 1 ≤ n) (hn2 : n ≤ 20) (ha : 0 ≤ a) (hae : a ≤ e) (he : e ≤ 100000) (hi : i < 256) (hg : Good (fillL n e i)) :
    (n ≤ e - a → resE 256 (fillL n e i) 998 2 n a e = 0 ∧ resP 256 (fillL n e i) 998 2 n a e = e - n ∧ resM 256 (fillL n e i) 998 2 n a e = putK (fillL n e i) (998, 2, e - n, e - n + n)) ∧
    (e - a < n → resE 256 (fillL n e i) 998 2 n a e = 4) := by
  have hR := rgt_iff.2 (show Rgt n a e from ⟨hn, by omega, ha, by omega, by omega⟩)
  have hid : (998 : Int) ∉ (fillL n e i).map idK := fill_ids (by omega)
  constructor
  · intro h
    have hE : resE 256 (fillL n e i) 998 2 n a e = 0 := by
      unfold resE
      rw [if_pos hR, if_neg hid, if_neg (by rw [fill_length]; omega), if_neg (by rw [fill_lat2 hn hg]; omega)]
    refine ⟨hE, ?_, ?_⟩
    · unfold resP; rw [if_pos hE, fill_lat2 hn hg]
    · unfold resM; rw [if_pos hE, fill_lat2 hn hg]
  · intro h
    unfold resE
    rw [if_pos hR, if_neg hid, if_neg (by rw [fill_length]; omega), if_pos (by rw [fill_lat2 hn hg]; omega)]
theorem fill_at {n e : Int} (hn : 1 ≤ n) : ∀ i, (atL (e - n) (fillL n e (i + 1))).length = 1
  | 0 => by
    unfold atL fillL fillL
    rw [List.filter_cons_of_pos]
    · rfl
    · simp [hasB]; omega
  | i + 1 => by
    have ih := fill_at (e := e) hn i
    unfold atL at ih ⊢
    rw [fillL, List.filter_cons_of_neg]
    · exact ih
    · have := mul_mono (i := 1) (j := ((i + 1 : Nat) : Int)) (n := n) (by omega) (by omega)
      simp only [hasB, Bool.and_eq_true, decide_eq_true_eq]
      omega
theorem fill_depth {n e : Int} (hn : 1 ≤ n) {i : Nat} (h0 : 0 < i) : (atL (e - n) (putK (fillL n e i) (998, 2, e - n, e - n + n))).length = 2 := by
  obtain ⟨j, rfl⟩ : ∃ j, i = j + 1 := ⟨i - 1, by omega⟩
  unfold atL
  rw [((put_perm (fillL n e (j + 1)) (998, 2, e - n, e - n + n)).filter _).length_eq, List.filter_cons_of_pos]
  · rw [List.length_cons]
    have := fill_at (e := e) hn j
    unfold atL at this
    rw [this]
  · simp [hasB]; omega
end Go.Proofs.Ytojnkkkgkmgagaa
