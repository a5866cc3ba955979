/- The statements' own row of slots in order: one more. -/
import Derived.Test.YtojnkkkgkmgagaaTc
namespace Go.Proofs.Ytojnkkkgkmgagaa
open Go.RowKit Go.Sort

theorem below_d1 (X : World) (o : Obj) : Below X.heap.size X (X.alloc o).drew := below_drewN (below_new _ _) 1
theorem below_d2 (X : World) (o o' : Obj) : Below X.heap.size X ((X.alloc o).alloc o').drew := below_drewN ((below_new _ _).alloc (by simp) _) 1
theorem keys_4 {W : World} {b : Nat} (k0 k1 k2 k3 : Int) (h : Lies W b 33 #[.int .i64 k0, .int .i64 k1, .int .i64 k2, .int .i64 k3]) : Keys W (some ⟨b, 0, none⟩) 1 [(k0, k1, k2, k3)] := keys_row h rfl (by simp)
theorem GrowsQ.lower {w X W : World} {A : Option Addr} {n c : Nat} {zs : List Ky} (h : GrowsQ X A n c zs W) (hb : Below w.heap.size w X) : GrowsQ w A n c zs W := by
  refine ⟨hb.trans (h.1.mono hb.size), h.2.1, ?_⟩
  rcases h.2.2 with hn | ⟨g, cap, cur, e, hg, rest⟩
  · exact .inl hn
  · exact .inr ⟨g, cap, cur, e, Nat.le_trans hb.size hg, rest⟩
theorem Keys.drop {w : World} {b off c : Nat} {l : List Ky} (h : Keys w (some ⟨b, off, none⟩) c l) (j c' : Nat) (hc : l.length - j ≤ c') : Keys w (some ⟨b, off + j * 4, none⟩) c' (l.drop j) := by
  refine ⟨by rw [List.length_drop]; exact hc, fun h0 => ?_⟩
  rw [List.length_drop] at h0
  obtain ⟨b', off', e, hb, hat⟩ := h.form (by omega)
  cases e
  refine ⟨b, off + j * 4, rfl, hb, fun i t hi m v hm => ?_⟩
  rw [List.getElem?_drop] at hi
  have := hat _ t hi m v hm
  rw [show off + j * 4 + i * 4 + m = off + (j + i) * 4 + m by omega]; exact this
/-- The place was looked for as far as j. -/
def PutRel (m : List Ky) (k : Ky) (V : World) (i : Value) (W : World) : Prop := ∃ j : Nat, j ≤ m.length ∧ i = .int .i64 (j : Int) ∧ Below V.heap.size V W ∧ ∀ i x, i < j → m[i]? = some x → lt x k = true
/-- A slice's beginning: none, or a plain place. -/
def Plain (A : Option Addr) (c : Nat) : Prop := (A = none ∧ c = 0) ∨ ∃ b off, A = some ⟨b, off, none⟩
theorem lt_is (y0 y1 y2 y3 k0 k1 k2 k3 : Int) : lt (y0, y1, y2, y3) (k0, k1, k2, k3) = true ↔ (y2 < k2 ∨ y2 = k2 ∧ y0 < k0) := lt_iff

set_option maxRecDepth 100000 in
set_option maxHeartbeats 8000000 in
theorem refPut (m : List Ky) (k : Ky) (A : Option Addr) (c : Nat) {w : World} (hl : m.length ≤ 1000) (hk : Keys w A c m) (hA : Plain A c) (hc : c ≤ 9223372036854775807) : Calls Try.prog 14 #[.slice A m.length c, aggQ k] w (Rows1 (m.length + 1) (putK m k) w) := by
  obtain ⟨n, hn⟩ : ∃ n, n = m.length := ⟨_, rfl⟩
  have HN := Lib.hid hn.symm
  rw [← hn] at hl ⊢
  have hnc : n ≤ c := by rw [hn]; exact hk.le
  clear hn
  obtain ⟨k0, k1, k2, k3⟩ := k
  have HPU : Hid (∀ j, j ≤ n → (∀ i x, i < j → m[i]? = some x → lt x (k0, k1, k2, k3) = true) → (∀ x, m[j]? = some x → lt x (k0, k1, k2, k3) = false) → m.take j ++ [(k0, k1, k2, k3)] ++ m.drop j = putK m (k0, k1, k2, k3)) := fun j h1 h2 h3 => by
    rw [putK, pos_eq (by rw [HN.out]; exact h1) h2 h3]; simp
  simp only [aggQ]
  obtain ⟨V, hV⟩ : ∃ V, V = w.alloc (.cells #[.int .i64 k0, .int .i64 k1, .int .i64 k2, .int .i64 k3] 33) := ⟨_, rfl⟩
  have HBV : Hid (Below w.heap.size w V) := by rw [hV]; exact below_new _ _
  have HLV : Hid (Lies V w.heap.size 33 #[.int .i64 k0, .int .i64 k1, .int .i64 k2, .int .i64 k3]) := by rw [hV]; exact Lies.made _ _ _
  have HKV := Lib.hid (hk.below (Nat.le_refl _) HBV.out)
  have HVE := Lib.hid hV
  clear hV hk
  go_enter Try.func14, Try.ntmps14
  go_wp2
  rw [← HVE.out]
  go_loopw [5] (fun i W => PutRel m (k0, k1, k2, k3) V i W) (fun i _ => n - (intOf i).toNat)
  case atStart => exact ⟨0, by omega, rfl, Below.refl _ _, fun i x hi => by omega⟩
  case round =>
    obtain ⟨j, hj, rfl, hb, hall⟩ := hrel
    rw [HN.out] at hj
    have HB := Lib.hid hb
    have HA := Lib.hid hall
    have HL := Lib.hid (HLV.out.below hb HLV.out.lt)
    have HK := Lib.hid (HKV.out.below (Nat.le_refl _) hb)
    clear hb hall
    have z0 : wr.cell? ⟨w.heap.size, 0, none⟩ = some (.int .i64 k0) := HL.out.cell 0
    have z1 : wr.cell? ⟨w.heap.size, 1, none⟩ = some (.int .i64 k1) := HL.out.cell 1
    have z2 : wr.cell? ⟨w.heap.size, 2, none⟩ = some (.int .i64 k2) := HL.out.cell 2
    have z3 : wr.cell? ⟨w.heap.size, 3, none⟩ = some (.int .i64 k3) := HL.out.cell 3
    have hsl := HL.out.lt
    by_cases hjn : j < n
    · have t1 : decide ((j : Int) < (n : Int)) = true := by simp; omega
      have hx : m[j]? = some (m[j]'(by rw [HN.out]; exact hjn)) := List.getElem?_eq_getElem _
      obtain ⟨b, off, rfl, hbl, x0, x1, x2, x3⟩ := HK.out.cells hx
      have HX := Lib.hid hx
      clear hx
      generalize m[j]'(by rw [HN.out]; exact hjn) = x at x0 x1 x2 x3 HX
      obtain ⟨y0, y1, y2, y3⟩ := x
      simp only at x0 x1 x2 x3
      have i1 : (0 : Int) ≤ (j : Int) := by omega
      by_cases hgo : lt (y0, y1, y2, y3) (k0, k1, k2, k3) = true
      · have HA1 : Hid (∀ i x, i < j + 1 → m[i]? = some x → lt x (k0, k1, k2, k3) = true) := fun i x hi hx => by
          by_cases e : i = j
          · subst e
            rw [HX.out] at hx
            cases hx
            exact hgo
          · exact HA.out i x (by omega) hx
        have hgo2 : decide (y2 < k2) = true ∨ (decide (y2 < k2) = false ∧ (y2 == k2) = true ∧ decide (y0 < k0) = true) := by
          rcases (lt_is y0 y1 y2 y3 k0 k1 k2 k3).1 hgo with h' | ⟨h1, h2⟩
          · exact .inl (decide_eq_true h')
          · exact .inr ⟨decide_eq_false (by omega), by rw [beq_iff_eq]; exact h1, decide_eq_true h2⟩
        clear hgo
        rcases hgo2 with t2 | ⟨t2, t3, t4⟩
        all_goals
          go_wp2
          go_quiet (fail)
          go_wp2
          go_roundw
          case rel => exact ⟨j + 1, by rw [HN.out]; omega, by go_num, below_drewN HB.out _, HA1.out⟩
          case measure => simp [intOf]; omega
      · have hno : lt (y0, y1, y2, y3) (k0, k1, k2, k3) = false := by simpa using hgo
        have HPUT := Lib.hid (HPU.out j (by omega) HA.out (fun x hx => by rw [HX.out] at hx; cases hx; exact hno))
        have hgo2 : (decide (y2 < k2) = false ∧ (y2 == k2) = false) ∨ (decide (y2 < k2) = false ∧ (y2 == k2) = true ∧ decide (y0 < k0) = false) := by
          have h3 : ¬ (y2 < k2 ∨ y2 = k2 ∧ y0 < k0) := fun h' => hgo ((lt_is y0 y1 y2 y3 k0 k1 k2 k3).2 h')
          by_cases he : y2 = k2
          · exact .inr ⟨decide_eq_false (by omega), by rw [beq_iff_eq]; exact he, decide_eq_false (by omega)⟩
          · exact .inl ⟨decide_eq_false (by omega), by rw [beq_eq_false_iff_ne]; exact he⟩
        clear hgo hno
        have q1 : ¬ (c = j) := by omega
        have q2 : j ≤ c := by omega
        have q3 : j ≤ n := by omega
        rcases hgo2 with ⟨t2, t3⟩ | ⟨t2, t3, t4⟩
        all_goals
          go_wp2
          go_quiet (fail)
          rename_i nq
          clear x0 x1 x2 x3 z0 z1 z2 z3 HL t2 t3
          have HBX0 := Lib.hid (show Below V.heap.size V (wr.drewN nq) from below_drewN HB.out nq)
          generalize wr.drewN nq = X at HBX0 ⊢
          have HBX := Lib.hid (HBV.out.trans (HBX0.out.mono HBV.out.size))
          have HLX := Lib.hid (HLV.out.below HBX0.out HLV.out.lt)
          have HKX := Lib.hid (HKV.out.below (Nat.le_refl _) HBX0.out)
          have hsx : w.heap.size < X.heap.size := HLX.out.lt
          have KP : Hid (∀ w', Below X.heap.size X w' → w'.cell? ⟨w.heap.size, 0, none⟩ = some (.int .i64 k0) ∧ w'.cell? ⟨w.heap.size, 1, none⟩ = some (.int .i64 k1) ∧ w'.cell? ⟨w.heap.size, 2, none⟩ = some (.int .i64 k2) ∧ w'.cell? ⟨w.heap.size, 3, none⟩ = some (.int .i64 k3)) := fun w' hw' => by
            have L := HLX.out.below hw' HLX.out.lt
            exact ⟨L.cell 0, L.cell 1, L.cell 2, L.cell 3⟩
          have z0 : X.cell? ⟨w.heap.size, 0, none⟩ = some (.int .i64 k0) := HLX.out.cell 0
          have z1 : X.cell? ⟨w.heap.size, 1, none⟩ = some (.int .i64 k1) := HLX.out.cell 1
          have z2 : X.cell? ⟨w.heap.size, 2, none⟩ = some (.int .i64 k2) := HLX.out.cell 2
          have z3 : X.cell? ⟨w.heap.size, 3, none⟩ = some (.int .i64 k3) := HLX.out.cell 3
          obtain ⟨ZT, hZT⟩ : ∃ ZT, ZT = m.take j := ⟨_, rfl⟩
          obtain ⟨ZD, hZD⟩ : ∃ ZD, ZD = m.drop j := ⟨_, rfl⟩
          have HZT := Lib.hid (show ZT.length = j by rw [hZT, List.length_take, HN.out] <;> omega)
          have HZD := Lib.hid (show ZD.length = n - j by rw [hZD, List.length_drop, HN.out] <;> omega)
          have RT : Hid (Keys X (some ⟨b, off, none⟩) c ZT) := by rw [hZT]; exact HKX.out.take j
          have RD : Hid (Keys X (some ⟨b, off + j * 4, none⟩) (c - j) ZD) := by rw [hZD]; exact HKX.out.drop j (c - j) (by rw [HN.out]; omega)
          have HIN : Hid (ZT ++ [(k0, k1, k2, k3)] ++ ZD = putK m (k0, k1, k2, k3)) := by rw [hZT, hZD]; exact HPUT.out
          clear hZT hZD HPUT
          go_wp2
          go_region_held3 (fun w' => w'.cell? ⟨w.heap.size, 0, none⟩ = some (.int .i64 k0) ∧ w'.cell? ⟨w.heap.size, 1, none⟩ = some (.int .i64 k1) ∧ w'.cell? ⟨w.heap.size, 2, none⟩ = some (.int .i64 k2) ∧ w'.cell? ⟨w.heap.size, 3, none⟩ = some (.int .i64 k3)) (first | (with_reducible exact KP.out _ (below_d1 _ _)) | (with_reducible exact KP.out _ (below_d2 _ _ _)) | (with_reducible exact KP.out _ hp2.bel) | (with_reducible exact KP.out _ (hp2.grows.alloc _).bel) | (with_reducible exact KP.out _ hp3.bel) | (with_reducible exact KP.out _ hp4.bel) | go_keep)
            (first
              | (refine step_append_old (by rfl) (.tmp 42) (.tmp 45) (by rfl) X _ 0 j c 0 j [] ZT (some ⟨b, off, none⟩) (by rfl) (by rfl) (by first | (with_reducible exact GrowsQ.drew (grows_n0 _)) | (with_reducible exact GrowsQ.drew ((grows_n0 _).alloc _)) | (with_reducible exact GrowsQ.drew (grows_n1 _ _))) HZT.out RT.out (by omega) (by omega) ?_; intro A2 c2 w2 hp2)
              | (refine step_append_keys (by rfl) (.tmp 46) (.tmp 48) (by rfl) X A2 j 1 1 c2 (j + 1) ([] ++ ZT) [(k0, k1, k2, k3)] _ (by rfl) (by rfl) (by first | (with_reducible exact hp2.grows) | (with_reducible exact hp2.grows.alloc _)) rfl (by first | (with_reducible exact keys_4 k0 k1 k2 k3 (lies_m0 _ 33 #[.int .i64 k0, .int .i64 k1, .int .i64 k2, .int .i64 k3])) | ((with_reducible refine keys_4 k0 k1 k2 k3 (hp2.keep _ _ _ (Lies.drew ((lies_m0 _ 33 #[.int .i64 k0, .int .i64 k1, .int .i64 k2, .int .i64 k3]).alloc _)) ?_)); exact block_ne (by omega)) | ((with_reducible refine keys_4 k0 k1 k2 k3 (hp2.keep _ _ _ (Lies.drew (lies_m1 _ _ 33 #[.int .i64 k0, .int .i64 k1, .int .i64 k2, .int .i64 k3])) ?_)); exact block_ne (by omega))) (by omega) (by omega) ?_; intro A3 c3 w3 hp3)
              | (refine step_append_old (by rfl) (.tmp 49) (.tmp 52) (by rfl) X A3 (j + 1) (n - j) (c - j) c3 (n + 1) ([] ++ ZT ++ [(k0, k1, k2, k3)]) ZD (some ⟨b, off + j * 4, none⟩) (by rfl) (by rfl) hp3.grows HZD.out RD.out (by omega) (by omega) ?_; intro A4 c4 w4 hp4))
          all_goals
            have HG4 := Lib.hid (hp4.grows.lower HBX.out)
            have e4 := HIN.out
            rw [List.nil_append, e4] at HG4
            clear hp2 hp3 hp4 e4
            go_wp2
            go_ret
            exact ⟨A4, c4, rfl, HG4.out⟩
    · have t1 : decide ((j : Int) < (n : Int)) = false := by simp; omega
      have t1' : decide (j < n) = false := by simp; omega
      obtain rfl : j = n := by omega
      have HPUT := Lib.hid (HPU.out j (by omega) HA.out (fun x hx => by
        have := (List.getElem?_eq_some_iff.1 hx).1
        rw [HN.out] at this
        omega))
      have HKE : Hid (∀ (W : World) (s : Option Addr) (c' : Nat), Keys W s c' (m.drop j)) := fun W s c' => by
        rw [List.drop_eq_nil_of_le (by rw [HN.out]; omega)]; exact keys_none W s c'
      go_wp2
      go_quiet (fail)
      rename_i nq
      clear z0 z1 z2 z3 HL
      have HBX0 := Lib.hid (show Below V.heap.size V (wr.drewN nq) from below_drewN HB.out nq)
      generalize wr.drewN nq = X at HBX0 ⊢
      have HBX := Lib.hid (HBV.out.trans (HBX0.out.mono HBV.out.size))
      have HLX := Lib.hid (HLV.out.below HBX0.out HLV.out.lt)
      have HKX := Lib.hid (HKV.out.below (Nat.le_refl _) HBX0.out)
      have hsx : w.heap.size < X.heap.size := HLX.out.lt
      have KP : Hid (∀ w', Below X.heap.size X w' → w'.cell? ⟨w.heap.size, 0, none⟩ = some (.int .i64 k0) ∧ w'.cell? ⟨w.heap.size, 1, none⟩ = some (.int .i64 k1) ∧ w'.cell? ⟨w.heap.size, 2, none⟩ = some (.int .i64 k2) ∧ w'.cell? ⟨w.heap.size, 3, none⟩ = some (.int .i64 k3)) := fun w' hw' => by
        have L := HLX.out.below hw' HLX.out.lt
        exact ⟨L.cell 0, L.cell 1, L.cell 2, L.cell 3⟩
      have z0 : X.cell? ⟨w.heap.size, 0, none⟩ = some (.int .i64 k0) := HLX.out.cell 0
      have z1 : X.cell? ⟨w.heap.size, 1, none⟩ = some (.int .i64 k1) := HLX.out.cell 1
      have z2 : X.cell? ⟨w.heap.size, 2, none⟩ = some (.int .i64 k2) := HLX.out.cell 2
      have z3 : X.cell? ⟨w.heap.size, 3, none⟩ = some (.int .i64 k3) := HLX.out.cell 3
      rcases hA with ⟨rfl, rfl⟩ | ⟨b, off, rfl⟩
      · obtain rfl : j = 0 := by omega
        obtain ⟨ZT, hZT⟩ : ∃ ZT, ZT = m.take 0 := ⟨_, rfl⟩
        obtain ⟨ZD, hZD⟩ : ∃ ZD, ZD = m.drop 0 := ⟨_, rfl⟩
        have HZT := Lib.hid (show ZT.length = 0 by rw [hZT, List.length_take, HN.out] <;> omega)
        have HZD := Lib.hid (show ZD.length = 0 by rw [hZD, List.length_drop, HN.out] <;> omega)
        have RT : Hid (Keys X none 0 ZT) := by rw [hZT]; exact HKX.out.take 0
        have RD : Hid (Keys X none 0 ZD) := by rw [hZD]; exact HKE.out _ _ _
        have HIN : Hid (ZT ++ [(k0, k1, k2, k3)] ++ ZD = putK m (k0, k1, k2, k3)) := by rw [hZT, hZD]; exact HPUT.out
        clear hZT hZD HPUT
        go_wp2
        go_region_held3 (fun w' => w'.cell? ⟨w.heap.size, 0, none⟩ = some (.int .i64 k0) ∧ w'.cell? ⟨w.heap.size, 1, none⟩ = some (.int .i64 k1) ∧ w'.cell? ⟨w.heap.size, 2, none⟩ = some (.int .i64 k2) ∧ w'.cell? ⟨w.heap.size, 3, none⟩ = some (.int .i64 k3)) (first | (with_reducible exact KP.out _ (below_d1 _ _)) | (with_reducible exact KP.out _ (below_d2 _ _ _)) | (with_reducible exact KP.out _ hp2.bel) | (with_reducible exact KP.out _ (hp2.grows.alloc _).bel) | (with_reducible exact KP.out _ hp3.bel) | (with_reducible exact KP.out _ hp4.bel) | go_keep)
          (first
            | (refine step_append_old (by rfl) (.tmp 42) (.tmp 45) (by rfl) X _ 0 0 0 0 0 [] ZT none (by rfl) (by rfl) (by first | (with_reducible exact GrowsQ.drew (grows_n0 _)) | (with_reducible exact GrowsQ.drew ((grows_n0 _).alloc _)) | (with_reducible exact GrowsQ.drew (grows_n1 _ _))) HZT.out RT.out (by omega) (by omega) ?_; intro A2 c2 w2 hp2)
            | (refine step_append_keys (by rfl) (.tmp 46) (.tmp 48) (by rfl) X A2 0 1 1 c2 (0 + 1) ([] ++ ZT) [(k0, k1, k2, k3)] _ (by rfl) (by rfl) (by first | (with_reducible exact hp2.grows) | (with_reducible exact hp2.grows.alloc _)) rfl (by first | (with_reducible exact keys_4 k0 k1 k2 k3 (lies_m0 _ 33 #[.int .i64 k0, .int .i64 k1, .int .i64 k2, .int .i64 k3])) | ((with_reducible refine keys_4 k0 k1 k2 k3 (hp2.keep _ _ _ (Lies.drew ((lies_m0 _ 33 #[.int .i64 k0, .int .i64 k1, .int .i64 k2, .int .i64 k3]).alloc _)) ?_)); exact block_ne (by omega)) | ((with_reducible refine keys_4 k0 k1 k2 k3 (hp2.keep _ _ _ (Lies.drew (lies_m1 _ _ 33 #[.int .i64 k0, .int .i64 k1, .int .i64 k2, .int .i64 k3])) ?_)); exact block_ne (by omega))) (by omega) (by omega) ?_; intro A3 c3 w3 hp3)
            | (refine step_append_old (by rfl) (.tmp 49) (.tmp 52) (by rfl) X A3 (0 + 1) 0 0 c3 (0 + 1) ([] ++ ZT ++ [(k0, k1, k2, k3)]) ZD none (by rfl) (by rfl) hp3.grows HZD.out RD.out (by omega) (by omega) ?_; intro A4 c4 w4 hp4))
        all_goals
          have HG4 := Lib.hid (hp4.grows.lower HBX.out)
          have e4 := HIN.out
          rw [List.nil_append, e4] at HG4
          clear hp2 hp3 hp4 e4
          go_wp2
          go_ret
          exact ⟨A4, c4, rfl, HG4.out⟩
      · by_cases hcj : c = j
        · subst hcj
          obtain ⟨ZT, hZT⟩ : ∃ ZT, ZT = m.take c := ⟨_, rfl⟩
          obtain ⟨ZD, hZD⟩ : ∃ ZD, ZD = m.drop c := ⟨_, rfl⟩
          have HZT := Lib.hid (show ZT.length = c by rw [hZT, List.length_take, HN.out] <;> omega)
          have HZD := Lib.hid (show ZD.length = 0 by rw [hZD, List.length_drop, HN.out] <;> omega)
          have RT : Hid (Keys X (some ⟨b, off, none⟩) c ZT) := by rw [hZT]; exact HKX.out.take c
          have RD : Hid (Keys X (some ⟨b, off, none⟩) 0 ZD) := by rw [hZD]; exact HKE.out _ _ _
          have HIN : Hid (ZT ++ [(k0, k1, k2, k3)] ++ ZD = putK m (k0, k1, k2, k3)) := by rw [hZT, hZD]; exact HPUT.out
          clear hZT hZD HPUT
          go_wp2
          go_region_held3 (fun w' => w'.cell? ⟨w.heap.size, 0, none⟩ = some (.int .i64 k0) ∧ w'.cell? ⟨w.heap.size, 1, none⟩ = some (.int .i64 k1) ∧ w'.cell? ⟨w.heap.size, 2, none⟩ = some (.int .i64 k2) ∧ w'.cell? ⟨w.heap.size, 3, none⟩ = some (.int .i64 k3)) (first | (with_reducible exact KP.out _ (below_d1 _ _)) | (with_reducible exact KP.out _ (below_d2 _ _ _)) | (with_reducible exact KP.out _ hp2.bel) | (with_reducible exact KP.out _ (hp2.grows.alloc _).bel) | (with_reducible exact KP.out _ hp3.bel) | (with_reducible exact KP.out _ hp4.bel) | go_keep)
            (first
              | (refine step_append_old (by rfl) (.tmp 42) (.tmp 45) (by rfl) X _ 0 c c 0 c [] ZT (some ⟨b, off, none⟩) (by rfl) (by rfl) (by first | (with_reducible exact GrowsQ.drew (grows_n0 _)) | (with_reducible exact GrowsQ.drew ((grows_n0 _).alloc _)) | (with_reducible exact GrowsQ.drew (grows_n1 _ _))) HZT.out RT.out (by omega) (by omega) ?_; intro A2 c2 w2 hp2)
              | (refine step_append_keys (by rfl) (.tmp 46) (.tmp 48) (by rfl) X A2 c 1 1 c2 (c + 1) ([] ++ ZT) [(k0, k1, k2, k3)] _ (by rfl) (by rfl) (by first | (with_reducible exact hp2.grows) | (with_reducible exact hp2.grows.alloc _)) rfl (by first | (with_reducible exact keys_4 k0 k1 k2 k3 (lies_m0 _ 33 #[.int .i64 k0, .int .i64 k1, .int .i64 k2, .int .i64 k3])) | ((with_reducible refine keys_4 k0 k1 k2 k3 (hp2.keep _ _ _ (Lies.drew ((lies_m0 _ 33 #[.int .i64 k0, .int .i64 k1, .int .i64 k2, .int .i64 k3]).alloc _)) ?_)); exact block_ne (by omega)) | ((with_reducible refine keys_4 k0 k1 k2 k3 (hp2.keep _ _ _ (Lies.drew (lies_m1 _ _ 33 #[.int .i64 k0, .int .i64 k1, .int .i64 k2, .int .i64 k3])) ?_)); exact block_ne (by omega))) (by omega) (by omega) ?_; intro A3 c3 w3 hp3)
              | (refine step_append_old (by rfl) (.tmp 49) (.tmp 52) (by rfl) X A3 (c + 1) 0 0 c3 (c + 1) ([] ++ ZT ++ [(k0, k1, k2, k3)]) ZD (some ⟨b, off, none⟩) (by rfl) (by rfl) hp3.grows HZD.out RD.out (by omega) (by omega) ?_; intro A4 c4 w4 hp4))
          all_goals
            have HG4 := Lib.hid (hp4.grows.lower HBX.out)
            have e4 := HIN.out
            rw [List.nil_append, e4] at HG4
            clear hp2 hp3 hp4 e4
            go_wp2
            go_ret
            exact ⟨A4, c4, rfl, HG4.out⟩
        · have q2 : j ≤ c := by omega
          obtain ⟨ZT, hZT⟩ : ∃ ZT, ZT = m.take j := ⟨_, rfl⟩
          obtain ⟨ZD, hZD⟩ : ∃ ZD, ZD = m.drop j := ⟨_, rfl⟩
          have HZT := Lib.hid (show ZT.length = j by rw [hZT, List.length_take, HN.out] <;> omega)
          have HZD := Lib.hid (show ZD.length = 0 by rw [hZD, List.length_drop, HN.out] <;> omega)
          have RT : Hid (Keys X (some ⟨b, off, none⟩) c ZT) := by rw [hZT]; exact HKX.out.take j
          have RD : Hid (Keys X (some ⟨b, off + j * 4, none⟩) (c - j) ZD) := by rw [hZD]; exact HKE.out _ _ _
          have HIN : Hid (ZT ++ [(k0, k1, k2, k3)] ++ ZD = putK m (k0, k1, k2, k3)) := by rw [hZT, hZD]; exact HPUT.out
          clear hZT hZD HPUT
          go_wp2
          go_region_held3 (fun w' => w'.cell? ⟨w.heap.size, 0, none⟩ = some (.int .i64 k0) ∧ w'.cell? ⟨w.heap.size, 1, none⟩ = some (.int .i64 k1) ∧ w'.cell? ⟨w.heap.size, 2, none⟩ = some (.int .i64 k2) ∧ w'.cell? ⟨w.heap.size, 3, none⟩ = some (.int .i64 k3)) (first | (with_reducible exact KP.out _ (below_d1 _ _)) | (with_reducible exact KP.out _ (below_d2 _ _ _)) | (with_reducible exact KP.out _ hp2.bel) | (with_reducible exact KP.out _ (hp2.grows.alloc _).bel) | (with_reducible exact KP.out _ hp3.bel) | (with_reducible exact KP.out _ hp4.bel) | go_keep)
            (first
              | (refine step_append_old (by rfl) (.tmp 42) (.tmp 45) (by rfl) X _ 0 j c 0 j [] ZT (some ⟨b, off, none⟩) (by rfl) (by rfl) (by first | (with_reducible exact GrowsQ.drew (grows_n0 _)) | (with_reducible exact GrowsQ.drew ((grows_n0 _).alloc _)) | (with_reducible exact GrowsQ.drew (grows_n1 _ _))) HZT.out RT.out (by omega) (by omega) ?_; intro A2 c2 w2 hp2)
              | (refine step_append_keys (by rfl) (.tmp 46) (.tmp 48) (by rfl) X A2 j 1 1 c2 (j + 1) ([] ++ ZT) [(k0, k1, k2, k3)] _ (by rfl) (by rfl) (by first | (with_reducible exact hp2.grows) | (with_reducible exact hp2.grows.alloc _)) rfl (by first | (with_reducible exact keys_4 k0 k1 k2 k3 (lies_m0 _ 33 #[.int .i64 k0, .int .i64 k1, .int .i64 k2, .int .i64 k3])) | ((with_reducible refine keys_4 k0 k1 k2 k3 (hp2.keep _ _ _ (Lies.drew ((lies_m0 _ 33 #[.int .i64 k0, .int .i64 k1, .int .i64 k2, .int .i64 k3]).alloc _)) ?_)); exact block_ne (by omega)) | ((with_reducible refine keys_4 k0 k1 k2 k3 (hp2.keep _ _ _ (Lies.drew (lies_m1 _ _ 33 #[.int .i64 k0, .int .i64 k1, .int .i64 k2, .int .i64 k3])) ?_)); exact block_ne (by omega))) (by omega) (by omega) ?_; intro A3 c3 w3 hp3)
              | (refine step_append_old (by rfl) (.tmp 49) (.tmp 52) (by rfl) X A3 (j + 1) 0 (c - j) c3 (j + 1) ([] ++ ZT ++ [(k0, k1, k2, k3)]) ZD (some ⟨b, off + j * 4, none⟩) (by rfl) (by rfl) hp3.grows HZD.out RD.out (by omega) (by omega) ?_; intro A4 c4 w4 hp4))
          all_goals
            have HG4 := Lib.hid (hp4.grows.lower HBX.out)
            have e4 := HIN.out
            rw [List.nil_append, e4] at HG4
            clear hp2 hp3 hp4 e4
            go_wp2
            go_ret
            exact ⟨A4, c4, rfl, HG4.out⟩
end Go.Proofs.Ytojnkkkgkmgagaa
