/- The table asked: find, All, At, Depth. -/
import Derived.Test.YtojnkkkgkmgagaaTb
import Derived.Lib.SliceRun
namespace Go.Proofs.Ytojnkkkgkmgagaa
open Go.RowKit

section
variable {B p room : Nat} {w : World} {v : Value} {m : List Ky} {g : Option Nat}
set_option maxRecDepth 100000 in
set_option maxHeartbeats 2000000 in
theorem find_ (id : Int) (h : TabV B w p room v m) : Calls Try.prog 19 #[.pointer (some ⟨p, 0, none⟩), .int .i64 id] w (Found m id w) := by
  have hl := h.len
  have hr2 := h.r2
  have hpl : p < w.heap.size := h.obj.lt
  obtain ⟨a, c, rfl, hk⟩ := h.slice
  have cP : (w.alloc (.cells #[.int .i64 id] 3)).cell? ⟨p, 1, none⟩ = some (.slice a m.length c) := ((below_new w _).cell (p := ⟨p, 1, none⟩) hpl).trans (h.obj.cell 1)
  have KI := Lib.hid (index (w := w.alloc (.cells #[.int .i64 id] 3)) (b := w.heap.size) (id := id) (hk.below (Nat.le_refl _) (below_new w _)) (by omega) (Lies.made w 3 #[.int .i64 id] |>.cell 0) (by simp))
  have HB := Lib.hid (below_new w (.cells #[.int .i64 id] 3))
  clear h hk
  go_enter Try.func19, Try.ntmps19
  go_wp2_with (go_at_call 27; refine KI.out.mono ?_; rintro e w2 ⟨r, rfl, hf, hb⟩; have HB2 := Lib.hid (HB.out.trans (hb.mono (by simp))); have HF := Lib.hid hf; clear hb hf)
  go_ret
  exact ⟨_, rfl, HF.out, HB2.out⟩
end

theorem wpList_append_keys {X : World} {ops : Array Oper} {rest : List Oper} {o : Oper} {a : Act} {Q : Exit → Act → World → Prop} (hgd : o.guard = none) (s x : Operand)
    (hop : o.op = .call { callee := .builtin .append, args := #[s, x], argTypes := #[29, 29] })
    (W0 : World) (A0 : Option Addr) (n m c c0 N : Nat) (xs l : List Ky) (sa : Option Addr) (hs : a.eval s = .slice A0 n c0) (hx : a.eval x = .slice sa m c)
    (hG : GrowsQ W0 A0 n c0 xs X) (hm : l.length = m) (hr : Keys X sa c l) (hN : n + m = N) (hb : N ≤ 2000)
    (h : ∀ A cap w', PostQ W0 X A0 A N cap (xs ++ l) w' → wpList Try.prog ops Q rest (a.put o.dst (.slice A N cap)) w') : wpList Try.prog ops Q (o :: rest) a X := by
  subst hN
  obtain ⟨A, cap, w', hrun, hl⟩ := post_append o.type (c := c) hG hm hr hb
  exact Lib.wpList_append_run X hgd s x 29 29 hop _ _ hs hx _ _ hrun (h A cap w' hl)
/-- A row of slots of the call's own. -/
def Rows1 (n : Nat) (l : List Ky) (w : World) (e : Ending) (w' : World) : Prop := ∃ A c, e = .returned (.slice A n c) ∧ GrowsQ w A n c l w'
set_option maxHeartbeats 1000000 in
theorem clone_some {l : List Ky} {n b off c : Nat} {w : World} (hk : Keys w (some ⟨b, off, none⟩) c l) (hn : l.length = n) (hl : n ≤ 1024) : Calls Try.prog 26 #[.slice (some ⟨b, off, none⟩) n c] w (Rows1 n l w) := by
  have HK := Lib.hid (hk.below (Nat.le_refl _) (below_new w (.cells #[] 33)))
  have HG := Lib.hid (grows_n0 w)
  have HN := Lib.hid hn
  have q29 : (binOp .eql 29 (.slice (some ⟨b, off, none⟩) n c) (.slice none 0 0)).run Try.prog w = .ok (.bool false) w := Lib.run_eql_slice_nil w 29 33 (some ⟨b, off, none⟩) n c 0 0 Try.underlying29
  clear hk hn
  go_enter Try.func26, Try.ntmps26
  go_wp2_with (
    at_builtin
    refine wpList_append_keys rfl (.tmp 5) (.tmp 6) rfl w (some ⟨w.heap.size, 0, none⟩) 0 n c 0 n [] l (some ⟨b, off, none⟩) rfl rfl HG.out HN.out HK.out (by omega) (by omega) ?_
    intro A2 c2 w2 hp2
    have HP := Lib.hid hp2.grows
    clear hp2)
  go_ret
  exact ⟨A2, c2, rfl, HP.out⟩
set_option maxHeartbeats 1000000 in
theorem clone_none {c : Nat} {w : World} : Calls Try.prog 26 #[.slice none 0 c] w (Rows1 0 [] w) := by
  have q29 : (binOp .eql 29 (.slice none 0 c) (.slice none 0 0)).run Try.prog w = .ok (.bool true) w := Lib.run_eql_slice_nil w 29 33 none 0 c 0 0 Try.underlying29
  have HG : Hid (GrowsQ w none 0 0 [] w) := ⟨Below.refl _ _, World.ownsRow_nil _ _ _ _⟩
  go_enter Try.func26, Try.ntmps26
  go_wp2
  go_ret
  exact ⟨none, 0, rfl, HG.out⟩
theorem clone {l : List Ky} {a : Option Addr} {n c : Nat} {w : World} (ha : a = none ∨ ∃ g, a = some ⟨g, 0, none⟩) (hk : Keys w a c l) (hn : l.length = n) (hl : n ≤ 1024) : Calls Try.prog 26 #[.slice a n c] w (Rows1 n l w) := by
  rcases ha with rfl | ⟨g, rfl⟩
  · have : l = [] := by
      by_cases h : 0 < l.length
      · obtain ⟨b, off, h', _⟩ := hk.form h
        cases h'
      · exact List.eq_nil_of_length_eq_zero (by omega)
    subst this
    have : n = 0 := hn.symm
    subst this
    exact clone_none
  · exact clone_some hk hn hl
theorem own_addr {w : World} {B n : Nat} {v : Value} {cs : List Value} (h : w.ownsRow B 33 4 v n cs) : ∃ a c, v = .slice a n c ∧ n ≤ c ∧ (a = none ∨ ∃ g, a = some ⟨g, 0, none⟩) := by
  rcases h.2 with ⟨rfl, rfl⟩ | ⟨g, cap, cur, rfl, hb, hg, hnc, _⟩
  · exact ⟨none, 0, rfl, Nat.le_refl _, .inl rfl⟩
  · exact ⟨_, cap, rfl, hnc, .inr ⟨g, rfl⟩⟩

section
variable {B p room : Nat} {w : World} {v : Value} {m : List Ky} {g : Option Nat}
set_option maxHeartbeats 1000000 in
theorem all_ (h : TabV B w p room v m) : Calls Try.prog 16 #[.pointer (some ⟨p, 0, none⟩)] w (Rows1 m.length m w) := by
  have hl := h.len
  have hr2 := h.r2
  have hpl : p < w.heap.size := h.obj.lt
  obtain ⟨a, c, rfl, hc, ha⟩ := own_addr h.own
  have cP : w.cell? ⟨p, 1, none⟩ = some (.slice a m.length c) := h.obj.cell 1
  have KC := Lib.hid (clone ha (own_keys h.own) rfl (by omega))
  clear h ha
  go_enter Try.func16, Try.ntmps16
  go_wp2_with (go_at_call 26; refine KC.out.mono ?_; rintro e w2 ⟨A, c2, rfl, hg⟩; have HG := Lib.hid hg; clear hg)
  go_ret
  exact ⟨A, c2, rfl, HG.out⟩

/-- Those that have a tick. -/
def hasB (tick : Int) (s : Ky) : Bool := decide (s.2.2.1 ≤ tick) && decide (tick < s.2.2.2)
def atL (tick : Int) (m : List Ky) : List Ky := m.filter (hasB tick)
def AtRel (tick : Int) (m : List Ky) (w : World) (v i : Value) (W : World) : Prop :=
  ∃ (k n : Nat) (A : Option Addr) (c : Nat) (X : World), k ≤ m.length ∧ n ≤ k ∧ v = .slice A n c ∧ i = .int .i64 (k : Int) ∧ X = W ∧ GrowsQ w A n c (atL tick (m.take k)) X
theorem atL_step {tick : Int} {m : List Ky} {k : Nat} {s : Ky} (hs : m[k]? = some s) : atL tick (m.take (k + 1)) = atL tick (m.take k) ++ (if hasB tick s = true then [s] else []) := by
  unfold atL
  rw [List.take_add_one, hs, List.filter_append]
  simp [List.filter_cons]
set_option maxRecDepth 100000 in
set_option maxHeartbeats 2000000 in
theorem at_ (tick : Int) (h : TabV B w p room v m) : Calls Try.prog 17 #[.pointer (some ⟨p, 0, none⟩), .int .i64 tick] w (Rows1 (atL tick m).length (atL tick m) w) := by
  have hl := h.len
  have hr2 := h.r2
  have hpl : p < w.heap.size := h.obj.lt
  obtain ⟨a, c, rfl, hk⟩ := h.slice
  have cP : w.cell? ⟨p, 1, none⟩ = some (.slice a m.length c) := h.obj.cell 1
  have HK := Lib.hid hk
  clear h hk
  go_enter Try.func17, Try.ntmps17
  go_wp2
  go_loopw [5, 13] (fun v i W => AtRel tick m w v i W) (fun _ i _ => m.length - (intOf i).toNat)
  case atStart => exact ⟨0, 0, none, 0, w, by omega, by omega, rfl, rfl, rfl, Below.refl _ _, World.ownsRow_nil _ _ _ _⟩
  case round =>
    obtain ⟨k, n, A, c0, W, hkl, hnk, rfl, rfl, rfl, hg⟩ := hrel
    have HG := Lib.hid hg
    clear hg
    by_cases hlk : k < m.length
    · have t1 : decide ((k : Int) < (m.length : Int)) = true := by simp; omega
      have hx : m[k]? = some m[k] := List.getElem?_eq_getElem hlk
      obtain ⟨gb, off, rfl, hgb, x0, x1, x2, x3⟩ := (HK.out.below (Nat.le_refl _) HG.out.1).cells hx
      have HST := Lib.hid (atL_step (tick := tick) hx)
      clear hx
      generalize m[k] = s at x0 x1 x2 x3 HST
      obtain ⟨s0, s1, s2, s3⟩ := s
      simp only at x0 x1 x2 x3
      have i1 : (0 : Int) ≤ (k : Int) := by omega
      have hb : hasB tick (s0, s1, s2, s3) = (decide (s2 ≤ tick) && decide (tick < s3)) := rfl
      generalize hb1 : decide (s2 ≤ tick) = b1 at hb
      generalize hb2 : decide (tick < s3) = b2 at hb
      have HBB := Lib.hid hb
      clear hb
      have HG1 := Lib.hid (HG.out.alloc (.cells #[.int .i64 s0, .int .i64 s1, .int .i64 s2, .int .i64 s3] 33))
      have HG2 := Lib.hid (HG1.out.alloc (.cells #[.int .i64 s0, .int .i64 s1, .int .i64 s2, .int .i64 s3] 33))
      have HK2 := Lib.hid (keys_row (lies_m1 W (.cells #[.int .i64 s0, .int .i64 s1, .int .i64 s2, .int .i64 s3] 33) 33 #[.int .i64 s0, .int .i64 s1, .int .i64 s2, .int .i64 s3]) (l := [(s0, s1, s2, s3)]) (cap := 1) rfl (by simp))
      by_cases hbb : b1 = true ∧ b2 = true
      · obtain ⟨rfl, rfl⟩ := hbb
        rw [HBB.out] at HST
        simp only [Bool.and_self, if_true] at HST
        go_wp2_with (at_builtin; refine wpList_append_keys rfl (.tmp 27) (.tmp 29) rfl w A n 1 1 c0 (n + 1) (atL tick (m.take k)) [(s0, s1, s2, s3)] (some ⟨W.heap.size + 1, 0, none⟩) rfl rfl HG2.out rfl HK2.out (by omega) (by omega) ?_; intro A2 c2 w2 hp2; have HP := Lib.hid hp2.grows; clear hp2)
        go_roundw
        case rel => exact ⟨k + 1, n + 1, A2, c2, _, by omega, by omega, rfl, by go_num, rfl, by rw [HST.out]; exact HP.out⟩
        case measure => simp [intOf]; omega
      · have HF : Hid (hasB tick (s0, s1, s2, s3) = false) := by
          rw [HBB.out]
          cases b1 with
          | false => exact Lib.hid rfl
          | true =>
            cases b2 with
            | false => exact Lib.hid rfl
            | true => exact absurd ⟨rfl, rfl⟩ hbb
        rw [HF.out] at HST
        simp only [Bool.false_eq_true, if_false, List.append_nil] at HST
        clear HBB
        cases b1 with
        | false =>
          clear hbb
          go_wp2
          go_roundw
          case rel => exact ⟨k + 1, n, A, c0, _, by omega, by omega, rfl, by go_num, rfl, by rw [HST.out]; exact HG1.out⟩
          case measure => simp [intOf]; omega
        | true =>
          obtain rfl : b2 = false := by cases b2 with
            | false => rfl
            | true => exact absurd ⟨rfl, rfl⟩ hbb
          clear hbb
          go_wp2
          go_roundw
          case rel => exact ⟨k + 1, n, A, c0, _, by omega, by omega, rfl, by go_num, rfl, by rw [HST.out]; exact HG1.out⟩
          case measure => simp [intOf]; omega
    · have t1 : decide ((k : Int) < (m.length : Int)) = false := by simp; omega
      have t1' : decide (k < m.length) = false := by simp; omega
      have HE : Hid (n = (atL tick m).length ∧ GrowsQ w A n c0 (atL tick m) W) := by
        have h1 := HG.out
        rw [List.take_of_length_le (by omega)] at h1
        have h2 := h1.2.1
        rw [length_flatQ] at h2
        exact ⟨by omega, h1⟩
      go_wp2
      go_ret
      obtain ⟨h1, h2⟩ := HE.out
      subst h1
      exact ⟨A, c0, rfl, h2⟩
set_option maxHeartbeats 1000000 in
theorem depth_ (tick : Int) (h : TabV B w p room v m) : Calls Try.prog 18 #[.pointer (some ⟨p, 0, none⟩), .int .i64 tick] w (Tells (.int .i64 ((atL tick m).length : Int)) w) := by
  have KA := Lib.hid (at_ tick h)
  clear h
  generalize (atL tick m).length = q at KA ⊢
  go_enter Try.func18, Try.ntmps18
  go_wp2_with (go_at_call 17; refine KA.out.mono ?_; rintro e w2 ⟨A, c2, rfl, hg⟩; have HB := Lib.hid hg.1; clear hg)
  go_ret
  exact ⟨rfl, HB.out⟩
end
end Go.Proofs.Ytojnkkkgkmgagaa
