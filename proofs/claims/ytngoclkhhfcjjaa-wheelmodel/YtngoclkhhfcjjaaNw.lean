/- A new wheel; the least time of its entries. -/
import Derived.Test.YtngoclkhhfcjjaaRd
import Derived.Laws.Tables
namespace Go.Proofs.Ytngoclkhhfcjjaa
open Go.RowKit

set_option maxRecDepth 100000 in
theorem zero_is : ((Try.prog.info? 52).bind (·.zero)).map (fun z => match z with | .agg cs => (cs.size, cs[1]?, cs.toList.drop 2) | _ => (0, none, [])) = some (66, some (.int .i64 0), List.replicate 64 (.slice none 0 0)) := by kernel_rfl
/-- A wheel's cells, all 0. -/
theorem zero_cells : ∃ cs : Array Value, (∀ w, (zeroValue 52).run Try.prog w = .ok (.agg cs) w) ∧ cs.size = 66 ∧ cs[1]? = some (.int .i64 0) ∧ ∀ j, j < 64 → cs[2 + j]? = some (.slice none 0 0) := by
  obtain ⟨z, h1, h2⟩ := Option.map_eq_some_iff.1 zero_is
  obtain ⟨i, hi, hz⟩ := Option.bind_eq_some_iff.1 h1
  cases z with
  | agg cs =>
    simp only [Prod.mk.injEq] at h2
    refine ⟨cs, fun w => by simp [zeroValue, typeInfo, hi, hz], h2.1, h2.2.1, fun j hj => ?_⟩
    rw [← Array.getElem?_toList, ← List.getElem?_drop, h2.2.2, List.getElem?_replicate, if_pos hj]
  | _ => simp at h2

set_option maxHeartbeats 400000 in
theorem new_no (k : Int) (w : World) (h : k < 1 ∨ 1024 < k) :
    Calls Try.prog 9 #[.int .i64 k] w (Says (.tuple #[.pointer none, .int .i64 1]) w) := by
  rcases h with h | h
  · go_enter Try.func9, Try.ntmps9
    go_wp2
    go_ret2
    exact ⟨rfl, rfl⟩
  · have h' : ¬ k < 1 := by omega
    go_enter Try.func9, Try.ntmps9
    go_wp2
    go_ret2
    exact ⟨rfl, rfl⟩
/-- A new wheel: its block is the next one. -/
def News (B n : Nat) (w : World) (e : Ending) (w' : World) : Prop :=
  e = .returned (.tuple #[.pointer (some ⟨w.heap.size, 0, none⟩), .int .i64 0]) ∧ Whl (fun k => k = w.heap.size) B w' w.heap.size n 0 [] ∧ Below w.heap.size w w'
theorem whl_new {B n : Nat} {cs : Array Value} (w : World) (hB : B ≤ w.heap.size) (h1 : cs.size = 66) (h2 : cs[0]? = some (.int .i64 (n : Int))) (h3 : cs[1]? = some (.int .i64 0)) (h4 : ∀ j, j < 64 → cs[2 + j]? = some (.slice none 0 0)) (hn : 1 ≤ n) (hm : n ≤ 1024) :
    Whl (fun k => k = w.heap.size) B (w.alloc (.cells cs 52)) w.heap.size n 0 [] :=
  ⟨hn, hm, Nat.zero_le _, Good.nil, by omega, by omega, fun d hd => by simp at hd, fun k hk => by subst hk; exact ⟨hB, by simp⟩, rfl, fun _ => .slice none 0 0,
    ⟨cs, Lies.made _ _ _, h1, h2, h3, h4⟩, fun _ _ => World.ownsRow_nil _ _ _ _, (fun _ _ _ hk => by cases hk), (fun _ _ _ _ _ hk => by cases hk)⟩

set_option maxHeartbeats 400000 in
theorem newWheel {B : Nat} (n : Nat) (w : World) (hB : B ≤ w.heap.size) (h1 : 1 ≤ n) (h2 : n ≤ 1024) : Calls Try.prog 9 #[.int .i64 (n : Int)] w (News B n w) := by
  have t1 : decide ((n : Int) < 1) = false := by simp; omega
  have t2 : decide ((1024 : Int) < (n : Int)) = false := by simp; omega
  obtain ⟨cs, hb, c1, c2, c3⟩ := zero_cells
  have HI := Lib.hid (whl_new (B := B) (cs := cs.setIfInBounds 0 (.int .i64 (n : Int))) w hB (by simpa using c1) (by rw [Array.getElem?_setIfInBounds, if_pos rfl, if_pos (by omega)]) (by rw [Array.getElem?_setIfInBounds, if_neg (by omega)]; exact c2) (fun j hj => by rw [Array.getElem?_setIfInBounds, if_neg (by omega)]; exact c3 j hj) h1 h2)
  have hne : ¬ cs = #[] := fun e => by rw [e] at c1; simp at c1
  clear c1 c2 c3
  go_enter Try.func9, Try.ntmps9
  go_wp2
  go_ret2
  exact ⟨rfl, HI.out, below_new _ _⟩

/-- The least time, of entries in order; 0 of none. -/
def hdT (m : List Ky) : Int := (m.head?.map (·.1)).getD 0
theorem hdT_is {l : List Ky} (hs : Srt l) {x : Ky} (hx : x ∈ l) (hall : ∀ d ∈ l, x.1 ≤ d.1) : hdT l = x.1 := by
  cases l with
  | nil => simp at hx
  | cons y l =>
    have h1 := hall y List.mem_cons_self
    have h2 := List.pairwise_cons.1 (srt_times hs)
    show y.1 = x.1
    rcases List.mem_cons.1 hx with rfl | hx
    · rfl
    · have := h2.1 x hx
      omega
theorem hdT_le {l : List Ky} (hs : Srt l) {d : Ky} (hd : d ∈ l) : hdT l ≤ d.1 := by
  cases l with
  | nil => simp at hd
  | cons y l =>
    have h2 := List.pairwise_cons.1 (srt_times hs)
    show y.1 ≤ d.1
    rcases List.mem_cons.1 hd with rfl | hd
    · exact Int.le_refl _
    · exact h2.1 d hd
theorem hdT_mem {l : List Ky} (h : 0 < l.length) : ∃ x ∈ l, hdT l = x.1 := by
  cases l with
  | nil => simp at h
  | cons y l => exact ⟨y, List.mem_cons_self, rfl⟩
theorem upto_split {m : List Ky} {k : Nat} {d : Ky} : d ∈ upto m (k + 1) ↔ d ∈ upto m k ∨ d ∈ plc m k := by
  rw [upto_mem, upto_mem, plc_mem]
  constructor
  · rintro ⟨h1, h2⟩
    by_cases h : d.1 % 64 < (k : Int)
    · exact .inl ⟨h1, h⟩
    · exact .inr ⟨h1, by omega⟩
  · rintro (⟨h1, h2⟩ | ⟨h1, h2⟩)
    · exact ⟨h1, by omega⟩
    · exact ⟨h1, by omega⟩
theorem upto_srt {m : List Ky} (h : Srt m) (k : Nat) : Srt (upto m k) := h.sublist List.filter_sublist
theorem upto_same {m : List Ky} {k : Nat} (h : (plc m k).length = 0) : upto m (k + 1) = upto m k := by
  have e := upto_len k m
  rw [h] at e
  unfold upto at e ⊢
  refine List.filter_congr fun d hd => ?_
  have hn : ¬ d.1 % 64 = (k : Int) := fun e' => by
    have : d ∈ plc m k := plc_mem.2 ⟨hd, e'⟩
    rw [List.eq_nil_of_length_eq_zero h] at this
    simp at this
  by_cases h1 : d.1 % 64 < (k : Int)
  · have h2 : d.1 % 64 < ((k + 1 : Nat) : Int) := by omega
    simp only [h1, h2]
  · have h2 : ¬ d.1 % 64 < ((k + 1 : Nat) : Int) := by omega
    simp only [h1, h2]
/-- The next place has the least. -/
theorem hd_next {m : List Ky} {k : Nat} {x : Ky} (hs : Srt m) (hx : (plc m k)[0]? = some x) (h : (upto m k).length = 0 ∨ x.1 ≤ hdT (upto m k)) : hdT (upto m (k + 1)) = x.1 := by
  have hxm := List.mem_of_getElem? hx
  refine hdT_is (upto_srt hs _) (upto_split.2 (.inr hxm)) fun d hd => ?_
  rcases upto_split.1 hd with hd | hd
  · rcases h with h | h
    · rw [List.eq_nil_of_length_eq_zero h] at hd
      simp at hd
    · have := hdT_le (upto_srt hs k) hd
      omega
  · have h1 := hdT_le (hs.sublist (plc_sub m k)) hd
    have h2 : hdT (plc m k) = x.1 := by
      cases hp : plc m k with
      | nil => rw [hp] at hx; simp at hx
      | cons y l =>
        rw [hp] at hx
        have : y = x := by simpa using hx
        subst this
        rfl
    omega
theorem hd_keep {m : List Ky} {k : Nat} {x : Ky} (hs : Srt m) (hx : (plc m k)[0]? = some x) (h0 : 0 < (upto m k).length) (h : hdT (upto m k) ≤ x.1) : hdT (upto m (k + 1)) = hdT (upto m k) := by
  obtain ⟨y, hy, e⟩ := hdT_mem h0
  rw [e]
  refine hdT_is (upto_srt hs _) (upto_split.2 (.inl hy)) fun d hd => ?_
  rcases upto_split.1 hd with hd | hd
  · rw [← e]; exact hdT_le (upto_srt hs k) hd
  · have h1 := hdT_le (hs.sublist (plc_sub m k)) hd
    have h2 : hdT (plc m k) = x.1 := by
      cases hp : plc m k with
      | nil => rw [hp] at hx; simp at hx
      | cons z l =>
        rw [hp] at hx
        have : z = x := by simpa using hx
        subst this
        rfl
    omega

section
variable {S : Nat → Prop} {B p room : Nat} {now : Int} {w : World} {m : List Ky}
def NextRel (m : List Ky) (t o i : Value) : Prop := ∃ k : Nat, k ≤ 64 ∧ i = .int .i64 (k : Int) ∧ t = .int .i64 (hdT (upto m k)) ∧ o = .bool (decide (0 < (upto m k).length))
set_option maxHeartbeats 1000000 in
theorem nextOf (h : Whl S B w p room now m) : Calls Try.prog 15 #[.pointer (some ⟨p, 0, none⟩)] w (Says (.tuple #[.int .i64 (hdT m), .bool (decide (0 < m.length))]) w) := by
  obtain ⟨V, hV⟩ := h.body
  obtain ⟨A, hl, hA⟩ := hV.load
  have HA := Lib.hid hA
  have HV := Lib.hid hV
  have HL := Lib.hid hl
  have HS := Lib.hid h.good.srt
  clear hl h hV hA
  go_enter Try.func15, Try.ntmps15
  go_wp2_with (refine wpList_load_places rfl (.tmp 10) rfl HL.out rfl ?_)
  go_loop [4, 5, 12] (fun t o i => NextRel m t o i) (fun _ _ i => 64 - (intOf i).toNat)
  case atStart => exact ⟨0, by omega, rfl, by rw [upto_zero]; rfl, by rw [upto_zero]; rfl⟩
  case round =>
    obtain ⟨k, hk, rfl, rfl, rfl⟩ := hrel
    by_cases hlt : k < 64
    · have t1 : decide ((k : Int) < 64) = true := by simp; omega
      obtain ⟨a, c, hv, hc, hkeys⟩ := HV.out.row hlt
      have hx := run_place hlt (HA.out k hlt) w
      rw [hv] at hx
      have HU := Lib.hid (upto_len k m)
      by_cases h0 : (plc m k).length = 0
      · have HE := Lib.hid (upto_same h0)
        have t2 : decide ((0 : Int) < ((plc m k).length : Int)) = false := decide_eq_false (by omega)
        have t2' : decide (0 < (plc m k).length) = false := decide_eq_false (by omega)
        clear hv hc hkeys h0
        go_wp2
        go_round
        case rel => exact ⟨k + 1, by omega, by go_num, by rw [HE.out], by rw [HE.out]⟩
        case measure => simp [intOf]; omega
      · have t2 : decide ((0 : Int) < ((plc m k).length : Int)) = true := decide_eq_true (by omega)
        have t2' : decide (0 < (plc m k).length) = true := decide_eq_true (by omega)
        have hx0 : (plc m k)[0]? = some (plc m k)[0] := List.getElem?_eq_getElem (by omega)
        obtain ⟨b, off, rfl, hb, c0, -⟩ := hkeys.cells hx0
        have HX := Lib.hid hx0
        have i0 : 0 < (plc m k).length := by omega
        have HP : Hid (decide (0 < (upto m (k + 1)).length) = true) := by
          have := HU.out
          exact Lib.hid (decide_eq_true (by omega))
        rw [Nat.zero_mul, Nat.add_zero] at c0
        generalize (plc m k)[0] = x at c0 HX
        have hKN := Lib.hid (hd_next HS.out HX.out)
        have hKK := Lib.hid (hd_keep HS.out HX.out)
        obtain ⟨x0, x1⟩ := x
        simp only at c0 hKN hKK
        generalize hdT (upto m k) = t at hKN hKK
        by_cases h1 : (upto m k).length = 0
        · have t3 : decide (0 < (upto m k).length) = false := decide_eq_false (by omega)
          have HE := Lib.hid (hKN.out (.inl h1))
          rw [t3]
          clear hv hc hkeys h0 h1 hx0 t3
          go_wp2
          go_round
          case rel => exact ⟨k + 1, by omega, by go_num, by rw [HE.out], by rw [HP.out]⟩
          case measure => simp [intOf]; omega
        · have t3 : decide (0 < (upto m k).length) = true := decide_eq_true (by omega)
          rw [t3]
          by_cases h2 : x0 < t
          · have t4 : decide (x0 < t) = true := by simpa using h2
            have HE := Lib.hid (hKN.out (.inr (by omega)))
            clear hv hc hkeys h0 h1 hx0 t3 h2
            go_wp2
            go_round
            case rel => exact ⟨k + 1, by omega, by go_num, by rw [HE.out], by rw [HP.out]⟩
            case measure => simp [intOf]; omega
          · have t4 : decide (x0 < t) = false := by simpa using h2
            have HE := Lib.hid (hKK.out (by omega) (by omega))
            clear hv hc hkeys h0 h1 hx0 t3 h2
            go_wp2
            go_round
            case rel => exact ⟨k + 1, by omega, by go_num, by rw [HE.out], by rw [HP.out]⟩
            case measure => simp [intOf]; omega
    · have t1 : decide ((k : Int) < 64) = false := by simp; omega
      have t1' : decide (k < 64) = false := by simp; omega
      rw [show upto m k = m by rw [show k = 64 by omega, upto_all]]
      generalize hok : decide (0 < m.length) = ok
      generalize ht : hdT m = t
      have HOK := Lib.hid hok
      have HTT := Lib.hid ht
      clear hok ht
      go_wp2
      go_ret2
      exact ⟨by rw [HOK.out, HTT.out]; rfl, rfl⟩
end
end Go.Proofs.Ytngoclkhhfcjjaa
