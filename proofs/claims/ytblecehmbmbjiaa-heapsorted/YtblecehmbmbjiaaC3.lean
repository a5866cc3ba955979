/- The walk of the statement on what is popped being in order. -/
import Derived.Test.YtblecehmbmbjiaaPa
namespace Go.Proofs.Ytblecehmbmbjiaa
open Go.RowKit Go.Sort

theorem own_same {w w' : World} {B : Nat} {e : TypeId} {size : Nat} {v : Value} {n : Nat} {cs : List Value} (h : w.ownsRow B e size v n cs) (hs : ∀ k, v.ownBlock = some k → w'.heap[k]? = w.heap[k]?) : w'.ownsRow B e size v n cs := by
  refine ⟨h.1, ?_⟩
  rcases h.2 with hn | ⟨g, cap, cur, rfl, hb, hg, rest⟩
  · exact .inl hn
  · exact .inr ⟨g, cap, cur, rfl, hb, by rw [hs g rfl]; exact hg, rest⟩
/-- A heap and a row of keys, both of the call's own, apart. -/
structure Both (w0 : World) (p room : Nat) (m : List Ky) (A : Option Addr) (n c : Nat) (zs : List Ky) (W : World) : Prop where
  has : Has w0 p room m W
  row : W.ownsRow w0.heap.size 31 4 (.slice A n c) n (flatQ zs)
  ne : ∀ x, A = some x → x.block ≠ p
section
variable {w0 W W' X : World} {p room n c N c' : Nat} {m m' zs : List Ky} {A A' : Option Addr}
theorem Both.grows (h : Both w0 p room m A n c zs W) : GrowsQ w0 A n c zs W := ⟨h.has.below, h.row⟩
theorem Both.keys (h : Both w0 p room m A n c zs W) : Keys W A c zs := h.grows.keys
theorem Both.new (h : Has w0 p room m W) : Both w0 p room m none 0 0 [] W := ⟨h, World.ownsRow_nil _ _ _ _, fun x hx => by cases hx⟩
theorem Both.more (h : Both w0 p room m A n c zs W) (hb : Below W.heap.size W W') : Both w0 p room m A n c zs W' :=
  ⟨h.has.more hb, own_same h.row (fun k hk => hb.block k (own_lt h.row hk).2), h.ne⟩
theorem Both.turned (h : Both w0 p room m A n c zs W) (hh : Has w0 p room m' W') (ht : Turns (fun k => k = p) W W') : Both w0 p room m' A n c zs W' :=
  ⟨hh, own_same h.row (fun k hk => ht.block k (own_lt h.row hk).2 (fun e => by
    cases A with
    | none => cases hk
    | some x =>
      have : x.block = k := by simpa [Value.ownBlock] using hk
      exact h.ne x rfl (this.trans e))), h.ne⟩
theorem Heap.post (h : Heap X p room m) (hp : PostQ w0 X A A' N c' zs W) (hne : ∀ x, A = some x → x.block ≠ p) : Heap W p room m := by
  obtain ⟨l, _, hpl, _⟩ := h.body
  obtain ⟨cs, hL, _⟩ := hpl
  refine h.same ?_
  have := hp.2.1 p 52 cs hL hne
  unfold Lies at this hL
  rw [this, hL]
theorem Both.post {xs : List Ky} (h : Both w0 p room m A n c xs X) (hp : PostQ w0 X A A' N c' zs W) : Both w0 p room m A' N c' zs W :=
  ⟨⟨h.has.heap.post hp h.ne, hp.1.1, h.has.from_⟩, hp.1.2, fun x hx => by
    rcases hp.2.2 x hx with ⟨y, hy, e⟩ | e
    · rw [e]; exact h.ne y hy
    · rw [e]
      have := h.has.heap.lt
      omega⟩
end
theorem Calls.tell {f : FuncId} {args : Array Value} {v : Value} {w : World} (h : Calls Try.prog f args w (Says v w)) : Calls Try.prog f args w (Tells v w) := h.mono fun _ _ ⟨he, hw⟩ => ⟨he, by rw [← hw]; exact Below.refl _ _⟩

namespace Sorted
def PushRel (w : World) (p : Nat) (l : List Ky) (n i : Value) (W : World) : Prop := ∃ (k : Nat) (m : List Ky), k ≤ l.length ∧ m.length ≤ k ∧ n = .int .i64 (m.length : Int) ∧ i = .int .i64 (k : Int) ∧ (∀ x ∈ m, x ∈ l) ∧ Has w p 1024 m W
def PopRel (w : World) (p : Nat) (m : List Ky) (out i : Value) (W : World) : Prop := ∃ (k c : Nat) (A : Option Addr), k ≤ m.length ∧ i = .int .i64 (k : Int) ∧ out = .slice A k c ∧ Both w p 1024 (m.drop k) A k c (m.take k) W

set_option maxRecDepth 100000 in
set_option maxHeartbeats 4000000 in
theorem core (l : List Ky) (a : Option Addr) (cap : Nat) (w : World) (hm : l.length ≤ maxLen) (hr : Keys w a cap l) : Calls Try.prog 4 #[.slice a l.length cap] w (Woke w) := by
  have HR := Lib.hid hr
  unfold maxLen at hm
  clear hr
  have KN := Lib.hid (fun W (hb : Below w.heap.size w W) => has_new (w0 := w) 1024 hb (by omega) (by omega))
  go_enter Try.func4, Try.ntmps4
  go_wp2_with (fail)
  refine (awake _).mono ?_
  rintro e w1 ⟨rfl, hb1⟩
  have B1 := Lib.hid hb1
  clear hb1
  by_cases h3 : 300 < l.length
  · have t1 : decide ((300 : Int) < (l.length : Int)) = true := by simp; omega
    go_wp2_with (fail)
    refine (awake _).mono ?_
    rintro e w2 ⟨rfl, hb2⟩
    go_wp2
    go_ret
    exact ⟨rfl, B1.out.trans (hb2.mono B1.out.size)⟩
  · have t1 : decide ((300 : Int) < (l.length : Int)) = false := by simp; omega
    go_wp2_with (fail)
    refine (KN.out _ B1.out).mono ?_
    rintro e w2 ⟨rfl, h2, _⟩
    have H2 := Lib.hid h2
    clear h2
    generalize w1.heap.size = p at H2 ⊢
    go_wp2
    go_loopw [5, 6] (fun n i W => PushRel w p l n i W) (fun _ i _ => l.length - (intOf i).toNat)
    case atStart => exact ⟨0, [], by omega, by simp, rfl, rfl, by simp, H2.out⟩
    case round =>
      obtain ⟨k, m, hk, hmk, rfl, rfl, hsub, hh⟩ := hrel
      have H3 := Lib.hid hh
      have HS := Lib.hid hsub
      clear hh hsub
      by_cases hlt : k < l.length
      · have t4 : decide ((k : Int) < (l.length : Int)) = true := by simp; omega
        have hx : l[k]? = some l[k] := List.getElem?_eq_getElem hlt
        obtain ⟨b, off, rfl, hbl, x0, x1, x2, x3⟩ := (HR.out.below (Nat.le_refl _) H3.out.below).cells hx
        have HXM := Lib.hid (List.mem_of_getElem? hx)
        clear hx
        generalize l[k] = x at x0 x1 x2 x3 HXM
        by_cases hid : idK x ∈ m.map idK
        · have KP := Lib.hid (has_push_twice x hid H3.out)
          clear hid
          obtain ⟨y0, y1, y2, y3⟩ := x
          simp only [aggQ] at x0 x1 x2 x3 KP
          go_wp2_with (fail)
          with_reducible refine KP.out.mono ?_
          rintro e w4 ⟨rfl, h4, _⟩
          have H4 := Lib.hid h4
          clear h4 x0 x1 x2 x3
          go_wp2
          go_roundw
          case rel => exact ⟨k + 1, m, by omega, by omega, rfl, by go_num, HS.out, H4.out⟩
          case measure => simp [intOf]; omega
        · have KP := Lib.hid (has_push x hid (by omega) H3.out)
          have HS2 : Hid (∀ z ∈ putK m x, z ∈ l) := fun z hz => by
            rcases mem_put.1 hz with rfl | h
            · exact HXM.out
            · exact HS.out z h
          have HLN := Lib.hid (length_put m x)
          clear hid
          generalize putK m x = m2 at KP HS2 HLN
          obtain ⟨y0, y1, y2, y3⟩ := x
          simp only [aggQ] at x0 x1 x2 x3 KP
          go_wp2_with (fail)
          with_reducible refine KP.out.mono ?_
          rintro e w4 ⟨rfl, h4, _⟩
          have H4 := Lib.hid h4
          clear h4 x0 x1 x2 x3
          go_wp2
          go_roundw
          case rel => exact ⟨k + 1, m2, by omega, by rw [HLN.out]; omega, by rw [HLN.out]; go_num, by go_num, HS2.out, H4.out⟩
          case measure => simp [intOf]; omega
      · have t4 : decide ((k : Int) < (l.length : Int)) = false := by simp; omega
        have t4' : decide (k < l.length) = false := by simp; omega
        have HGO := Lib.hid H3.out.heap.good
        have H4 := Lib.hid (Both.new H3.out)
        go_wp2
        go_loopw [7, 8] (fun o i W => PopRel w p m o i W) (fun _ i _ => m.length - (intOf i).toNat)
        case atStart => exact ⟨0, 0, none, by omega, rfl, rfl, by simpa using H4.out⟩
        case round =>
          obtain ⟨j, c, A, hj, rfl, rfl, hh⟩ := hrel
          have H5 := Lib.hid hh
          clear hh H4
          by_cases hjm : j < m.length
          · have t5 : decide ((j : Int) < (m.length : Int)) = true := by simp; omega
            have hx : m[j]? = some m[j] := List.getElem?_eq_getElem hjm
            have HX := Lib.hid hx
            have HD := Lib.hid (show m.drop j = m[j] :: m.drop (j + 1) from List.drop_eq_getElem_cons hjm)
            have HT := Lib.hid (show m.take (j + 1) = m.take j ++ [m[j]] by rw [List.take_add_one, hx]; rfl)
            clear hx
            generalize m[j] = x at HX HD HT
            have KP := Lib.hid (has_pop (H5.out.has.eq HD.out))
            obtain ⟨q, k2, hq1, hq2, hq3⟩ := first_at (List.mem_map.2 ⟨x, HS.out x (List.mem_of_getElem? HX.out), rfl⟩)
            have KF1 : Hid (∀ W, Below w.heap.size w W → Calls Try.prog 11 #[.slice a l.length cap, .int .i64 (idK x)] W (Tells (.int .i64 (q : Int)) W)) := fun W hW => Calls.tell (refFind_first (by omega) (HR.out.below (Nat.le_refl _) hW) hq1 hq2 hq3)
            clear hq1 hq2 hq3
            have HNO : Hid (idK x ∉ (m.take j).map idK) := fun h => by
              obtain ⟨y, hy, e⟩ := List.mem_map.1 h
              obtain ⟨i, hi⟩ := List.getElem?_of_mem hy
              rw [List.getElem?_take] at hi
              split at hi
              · have := HGO.out.at_ hi HX.out e
                omega
              · cases hi
            have HTL := Lib.hid (show (m.take j).length = j by rw [List.length_take]; omega)
            have KF2 : Hid (∀ W, Keys W A c (m.take j) → Calls Try.prog 11 #[.slice A j c, .int .i64 (idK x)] W (Tells (.int .i64 (-1)) W)) := fun W hW => by
              have := Calls.tell (refFind_no (by rw [HTL.out]; omega) hW HNO.out)
              rwa [HTL.out] at this
            obtain ⟨y0, y1, y2, y3⟩ := x
            have e3 : idK (y0, y1, y2, y3) = y3 := rfl
            rw [e3] at KF1 KF2
            clear e3
            simp only [aggQ] at KP
            go_wp2_with (fail)
            with_reducible refine KP.out.mono ?_
            rintro e w5 ⟨rfl, h5, ht5⟩
            have H6 := Lib.hid ((H5.out.turned h5 ht5).more (below_new w5 (.cells #[.int .i64 y0, .int .i64 y1, .int .i64 y2, .int .i64 y3] 31)))
            have HL6 := Lib.hid (Lies.made w5 31 #[.int .i64 y0, .int .i64 y1, .int .i64 y2, .int .i64 y3])
            clear h5 ht5
            go_wp2
            generalize w5.alloc (.cells #[.int .i64 y0, .int .i64 y1, .int .i64 y2, .int .i64 y3] 31) = V at H6 HL6 ⊢
            have z0 : V.cell? ⟨w5.heap.size, 0, none⟩ = some (.int .i64 y0) := HL6.out.cell 0
            have z1 : V.cell? ⟨w5.heap.size, 1, none⟩ = some (.int .i64 y1) := HL6.out.cell 1
            have z2 : V.cell? ⟨w5.heap.size, 2, none⟩ = some (.int .i64 y2) := HL6.out.cell 2
            have z3 : V.cell? ⟨w5.heap.size, 3, none⟩ = some (.int .i64 y3) := HL6.out.cell 3
            have Z0 := cell_regrown z0
            have Z1 := cell_regrown z1
            have Z2 := cell_regrown z2
            have Z3 := cell_regrown z3
            have hvl := HL6.out.lt
            have CF1 := Lib.hid (fun d os => (KF1.out (grow (redrawn V d) os) (H6.out.has.below.trans ((below_regrown V d os).mono H6.out.has.below.size))).regrown_of)
            have CF2 := Lib.hid (fun d os => (KF2.out (grow (redrawn V d) os) (H6.out.keys.below (Nat.le_refl _) (below_regrown V d os))).regrown_of)
            have t7 : decide ((q : Int) < 0) = false := by simp
            clear z0 z1 z2 z3
            by_cases hj0 : j = 0
            · subst hj0
              refine wp_region_quiet_below (by kernel_rfl) (by kernel_rfl) ?_
              repeat (go_big_quiet_step (with_reducible first | exact CF1.out _ _ | exact CF2.out _ _))
              refine wpQuiet_nil ?_
              intro _ hw'
              obtain ⟨⟨d, os⟩, hw''⟩ := hw'
              subst hw''
              have HU := Lib.hid (below_regrown V d os)
              generalize grow (redrawn V d) os = U at HU ⊢
              have H7 := Lib.hid (H6.out.more HU.out)
              have HL7 := Lib.hid (HL6.out.below HU.out HL6.out.lt)
              clear Z0 Z1 Z2 Z3 CF1 CF2
              have z0 : U.cell? ⟨w5.heap.size, 0, none⟩ = some (.int .i64 y0) := HL7.out.cell 0
              have z1 : U.cell? ⟨w5.heap.size, 1, none⟩ = some (.int .i64 y1) := HL7.out.cell 1
              have z2 : U.cell? ⟨w5.heap.size, 2, none⟩ = some (.int .i64 y2) := HL7.out.cell 2
              have z3 : U.cell? ⟨w5.heap.size, 3, none⟩ = some (.int .i64 y3) := HL7.out.cell 3
              have H8 := Lib.hid (H7.out.more (below_new U (.cells #[.int .i64 y0, .int .i64 y1, .int .i64 y2, .int .i64 y3] 31)))
              have HKX := Lib.hid (show Keys (U.alloc (.cells #[.int .i64 y0, .int .i64 y1, .int .i64 y2, .int .i64 y3] 31)) (some ⟨U.heap.size, 0, none⟩) 1 [(y0, y1, y2, y3)] from keys_row (Lies.made U 31 _) rfl (by simp))
              go_wp2_with (
                at_builtin
                refine wpList_append_keys rfl (.tmp 84) (.tmp 86) rfl w A 0 1 1 c (0 + 1) (m.take 0) [(y0, y1, y2, y3)] (some ⟨U.heap.size, 0, none⟩) rfl rfl H8.out.grows rfl HKX.out rfl (by omega) ?_
                intro A9 c9 w9 hp9
                have H9 := Lib.hid (H8.out.post hp9)
                clear hp9)
              rw [← HT.out] at H9
              go_roundw
              case rel => exact ⟨0 + 1, c9, A9, by omega, by go_num, rfl, H9.out⟩
              case measure => simp [intOf]; omega
            · obtain ⟨i, rfl⟩ : ∃ i, j = i + 1 := ⟨j - 1, by omega⟩
              have t6 : decide ((0 : Int) < (i : Int) + 1) = true := decide_eq_true (by omega)
              have hil : i < m.length := by omega
              have hi : m[i]? = some m[i] := List.getElem?_eq_getElem hil
              have hi2 : (m.take (i + 1))[i]? = some m[i] := by rw [List.getElem?_take, if_pos (by omega)]; exact hi
              obtain ⟨b2, o2, rfl, hb2, v0, v1, v2, v3⟩ := H6.out.keys.cells hi2
              have HLT : Hid (Lt m[i] (y0, y1, y2, y3)) := by
                have := List.pairwise_iff_getElem.1 HGO.out.srt i (i + 1) hil hjm (by omega)
                have e : m[i + 1] = (y0, y1, y2, y3) := by have := HX.out; rw [List.getElem?_eq_getElem hjm] at this; exact Option.some.inj this
                rw [e] at this
                exact this
              have KC := Lib.hid (fun W => compare_below m[i] (y0, y1, y2, y3) W)
              have HCV := Lib.hid (show cmpK m[i] (y0, y1, y2, y3) = -1 by
                rcases cmp_cases m[i] (y0, y1, y2, y3) with ⟨_, e⟩ | ⟨h, _⟩ | ⟨h, _⟩
                · exact e
                · exact absurd HLT.out h.asymm
                · exact absurd h HLT.out.ne)
              rw [HCV.out] at KC
              clear hi hi2 HLT HCV
              generalize m[i] = pr at v0 v1 v2 v3 KC
              obtain ⟨p0, p1, p2, p3⟩ := pr
              simp only [aggQ] at v0 v1 v2 v3 KC
              have V0 := cell_regrown v0
              have V1 := cell_regrown v1
              have V2 := cell_regrown v2
              have V3 := cell_regrown v3
              have CC := Lib.hid (fun d os => (KC.out (grow (redrawn V d) os)).regrown_of)
              clear v0 v1 v2 v3
              have i1 : (0 : Int) ≤ (i : Int) := by omega
              have i2 : (i : Int) < (i : Int) + 1 := by omega
              refine wp_region_quiet_below (by kernel_rfl) (by kernel_rfl) ?_
              repeat (go_big_quiet_step (with_reducible first | exact CC.out _ _ | exact CF1.out _ _ | exact CF2.out _ _))
              refine wpQuiet_nil ?_
              intro _ hw'
              obtain ⟨⟨d, os⟩, hw''⟩ := hw'
              subst hw''
              have HU := Lib.hid (below_regrown V d os)
              generalize grow (redrawn V d) os = U at HU ⊢
              have H7 := Lib.hid (H6.out.more HU.out)
              have HL7 := Lib.hid (HL6.out.below HU.out HL6.out.lt)
              clear Z0 Z1 Z2 Z3 V0 V1 V2 V3 CF1 CF2 CC
              have z0 : U.cell? ⟨w5.heap.size, 0, none⟩ = some (.int .i64 y0) := HL7.out.cell 0
              have z1 : U.cell? ⟨w5.heap.size, 1, none⟩ = some (.int .i64 y1) := HL7.out.cell 1
              have z2 : U.cell? ⟨w5.heap.size, 2, none⟩ = some (.int .i64 y2) := HL7.out.cell 2
              have z3 : U.cell? ⟨w5.heap.size, 3, none⟩ = some (.int .i64 y3) := HL7.out.cell 3
              have H8 := Lib.hid (H7.out.more (below_new U (.cells #[.int .i64 y0, .int .i64 y1, .int .i64 y2, .int .i64 y3] 31)))
              have HKX := Lib.hid (show Keys (U.alloc (.cells #[.int .i64 y0, .int .i64 y1, .int .i64 y2, .int .i64 y3] 31)) (some ⟨U.heap.size, 0, none⟩) 1 [(y0, y1, y2, y3)] from keys_row (Lies.made U 31 _) rfl (by simp))
              go_wp2_with (
                at_builtin
                refine wpList_append_keys rfl (.tmp 84) (.tmp 86) rfl w (some ⟨b2, o2, none⟩) (i + 1) 1 1 c ((i + 1) + 1) (m.take (i + 1)) [(y0, y1, y2, y3)] (some ⟨U.heap.size, 0, none⟩) rfl rfl H8.out.grows rfl HKX.out rfl (by omega) ?_
                intro A9 c9 w9 hp9
                have H9 := Lib.hid (H8.out.post hp9)
                clear hp9)
              rw [← HT.out] at H9
              go_roundw
              case rel => exact ⟨i + 1 + 1, c9, A9, by omega, by go_num, rfl, H9.out⟩
              case measure => simp [intOf]; omega
          · have t5 : decide ((j : Int) < (m.length : Int)) = false := by simp; omega
            have t5' : decide (j < m.length) = false := by simp; omega
            have HE := Lib.hid (H5.out.has.eq (show m.drop j = [] from List.drop_eq_nil_of_le (by omega)))
            have KL := Lib.hid (show Calls Try.prog 19 #[.pointer (some ⟨p, 0, none⟩)] wr (Says (.int .i64 0) wr) from lenOf HE.out.heap)
            go_wp2_with (fail)
            with_reducible refine KL.out.mono ?_
            rintro e w6 ⟨rfl, rfl⟩
            go_wp2
            go_ret
            exact ⟨rfl, HE.out.below⟩
end Sorted
end Go.Proofs.Ytblecehmbmbjiaa
