/- Where a slot goes at the latest: the program's own walk over the row, from behind. -/
import Derived.Test.YtojnkkkgkmgagaaBk
namespace Go.Proofs.Ytojnkkkgkmgagaa
open Go.RowKit Go.Shelf
attribute [local go_sem] Oper.semAt_some

theorem fold_lat (g n a : Int) (l : List Ky) : l.reverse.foldl (stepL g n) a = latL g n a l := by
  rw [List.foldl_reverse]
  induction l with
  | nil => rfl
  | cons s l ih => simp only [List.foldr_cons, latL, ih]
theorem fold_bounds {g n : Int} (hn : n ≤ 1048576) : ∀ (l : List Ky) (a : Int), (∀ k ∈ l, Rt k) → -1048576 ≤ a → -1048576 ≤ l.foldl (stepL g n) a ∧ l.foldl (stepL g n) a ≤ a
  | [], a, _, h => ⟨h, Int.le_refl _⟩
  | s :: l, a, hr, h => by
    have h1 := step_ge g n a s hn (hr s List.mem_cons_self) h
    have h2 := step_le g n a s
    have := fold_bounds (g := g) hn l (stepL g n a s) (fun k hk => hr k (List.mem_cons_of_mem _ hk)) h1
    exact ⟨this.1, Int.le_trans this.2 h2⟩
theorem lies_own {B b : Nat} {ty : TypeId} {cs : Array Value} {X Y : World} {row : Option Nat} (h : Lies X b ty cs) (hg : X.grownBy Y row) (hr : ∀ r, row = some r → B ≤ r ∧ ∃ o : Obj, X.heap[r]? = some o ∧ o.isCells = false) : Lies Y b ty cs := by
  unfold Lies
  rw [hg.block b h.lt (fun e => ?_)]
  · exact h
  · obtain ⟨_, o, ho, hc⟩ := hr b e.symm
    rw [show X.heap[b]? = _ from h] at ho
    cases ho; cases hc

set_option maxRecDepth 100000 in
set_option maxHeartbeats 4000000 in
theorem latest_in {p : Nat} {a : Option Addr} {c : Nat} {m : List Ky} {w : World} (g n lim : Int) (hp : w.cell? ⟨p, 1, none⟩ = some (.slice a m.length c)) (hpl : p < w.heap.size) (hk : Keys w a c m) (hr : ∀ k ∈ m, Rt k) (hl : m.length ≤ 2000)
    (hn1 : 1 ≤ n) (hn2 : n ≤ 1048576) (h0 : 0 ≤ lim) (h1 : lim ≤ 1099511627776) :
    CallsIn Fence.wide 8 Try.prog 22 #[.pointer (some ⟨p, 0, none⟩), .int .i64 g, .int .i64 n, .int .i64 lim] w (Tells (.int .i64 (latL g n (lim - n) m)) w) := by
  obtain ⟨A, hA⟩ : ∃ A : List Ky → Int, A = fun l => l.foldl (stepL g n) (lim - n) := ⟨_, rfl⟩
  have HEND : Hid (∀ l, l = m.reverse → A l = latL g n (lim - n) m) := fun l hl => by subst hl; rw [hA]; exact fold_lat g n (lim - n) m
  have HBND : Hid (∀ l, (∀ k ∈ l, Rt k) → -1048576 ≤ A l ∧ A l ≤ 1099511627776) := fun l hl => by
    rw [hA]
    have := fold_bounds (g := g) (n := n) hn2 l (lim - n) hl (by omega)
    exact ⟨this.1, by have := this.2; simp only; omega⟩
  have HNIL : Hid (A [] = lim - n) := by rw [hA]; exact Lib.hid rfl
  have HSNOC : Hid (∀ l s, A (l ++ [s]) = stepL g n (A l) s) := fun l s => by rw [hA]; simp
  clear hA
  generalize latL g n (lim - n) m = res at HEND ⊢
  refine callsIn_of_wp_marks Try.func22 rfl trivial ?_ rfl
  simp only [Try.ntmps22, List.size_toArray, List.length_cons, List.length_nil, Nat.reduceAdd, Nat.reduceSub, Array.replicate_succ, Array.replicate_zero, List.push_toArray, List.append_toArray, List.nil_append, List.cons_append]
  have bG := (((Boxed.new w 3 (.int .i64 g)).alloc (.cells #[.int .i64 n] 3)).alloc (.cells #[.int .i64 (lim - n)] 3)).alloc (.cells #[.slice a m.length c] 29)
  have bN := ((Boxed.new (w.alloc (.cells #[.int .i64 g] 3)) 3 (.int .i64 n)).alloc (.cells #[.int .i64 (lim - n)] 3)).alloc (.cells #[.slice a m.length c] 29)
  have bA := (Boxed.new ((w.alloc (.cells #[.int .i64 g] 3)).alloc (.cells #[.int .i64 n] 3)) 3 (.int .i64 (lim - n))).alloc (.cells #[.slice a m.length c] 29)
  have bS := Boxed.new (((w.alloc (.cells #[.int .i64 g] 3)).alloc (.cells #[.int .i64 n] 3)).alloc (.cells #[.int .i64 (lim - n)] 3)) 29 (.slice a m.length c)
  simp only [World.size_alloc] at bN bA bS
  have hB0 : Below w.heap.size w ((((w.alloc (.cells #[.int .i64 g] 3)).alloc (.cells #[.int .i64 n] 3)).alloc (.cells #[.int .i64 (lim - n)] 3)).alloc (.cells #[.slice a m.length c] 29)) := ((((Below.refl _ w).alloc (Nat.le_refl _) _).alloc (by simp) _).alloc (by simp; omega) _).alloc (by simp; omega) _
  have hsz : ((((w.alloc (.cells #[.int .i64 g] 3)).alloc (.cells #[.int .i64 n] 3)).alloc (.cells #[.int .i64 (lim - n)] 3)).alloc (.cells #[.slice a m.length c] 29)).heap.size = w.heap.size + 4 := by simp
  have cP : (((w.alloc (.cells #[.int .i64 g] 3)).alloc (.cells #[.int .i64 n] 3)).alloc (.cells #[.int .i64 (lim - n)] 3)).cell? ⟨p, 1, none⟩ = some (.slice a m.length c) :=
    ((((Below.refl w.heap.size w).alloc (Nat.le_refl _) _).alloc (by simp) _).alloc (by simp; omega) _).cell (p := ⟨p, 1, none⟩) hpl |>.trans hp
  gi_wp2_with (refine ⟨trivial, ?_⟩; gi_at_call 29; refine (backward Fence.wide 7 trivial rfl _ _ _ _).mono ?_; rintro e w' ⟨rfl, rfl⟩)
  obtain ⟨W0, hW0⟩ : ∃ W0, (((w.alloc (.cells #[.int .i64 g] 3)).alloc (.cells #[.int .i64 n] 3)).alloc (.cells #[.int .i64 (lim - n)] 3)).alloc (.cells #[.slice a m.length c] 29) = W0 := ⟨_, rfl⟩
  rw [hW0] at bG bN bA bS hB0 hsz ⊢
  clear hW0
  refine wpIn_rangeFunc_ownH (α := It) (F := Fence.wide) rfl (by omega) (gf := 34) (lb := #[.pointer (some ⟨w.heap.size + 3, 0, none⟩)]) rfl trivial (enters_of Try.func34 (by kernel_rfl) rfl)
    (encs := encI) (Kp := KeepB w.heap.size (w.heap.size + 3)) (S := fun ys => slots ys = m.reverse) (Sp := fun _ => True) (N := m.length) (w0 := W0)
    (fun l J Jx W hW _ _ hY hJ => back_in Fence.wide 7 trivial rfl (by omega) l (w.heap.size + 3) w.heap.size c a m hr hl J Jx hY W
      (fun X hX => by
        have e1 : X.heap[w.heap.size + 3]? = W0.heap[w.heap.size + 3]? := (hX.block _ (by have := hW.size; omega) (fun h => h.2 rfl)).trans (hW.block _ (by omega))
        have b1 : Boxed X (w.heap.size + 3) 29 (.slice a m.length c) := e1.trans bS
        exact b1.cell)
      (fun X hX => hk.below (Nat.le_refl _) ((hB0.trans (hW.mono (by omega))).trans (hX.below (by have := hW.size; omega)))) hJ)
    KeepB.trans (KeepB.put (by omega) (by omega)) (Below.refl _ _) (fun _ => rfl)
    (fun pre W => ((Boxed W w.heap.size 3 (.int .i64 g) ∧ Boxed W (w.heap.size + 1) 3 (.int .i64 n)) ∧ (Boxed W (w.heap.size + 1 + 1) 3 (.int .i64 (A (slots pre))) ∧ Boxed W (w.heap.size + 3) 29 (.slice a m.length c))) ∧ Below w.heap.size w W)
    (fun _ _ _ => False)
    (OwnFrom.and (OwnFrom.and (OwnFrom.and (Own.from (boxed_own _ _ _) _) (Own.from (boxed_own _ _ _) _)) (OwnFrom.and (Own.from (boxed_own _ _ _) _) (Own.from (boxed_own _ _ (fun _ => Value.slice a m.length c)) _))) (ownFrom_below (Nat.le_refl _) (by omega)))
    (fun _ _ _ _ _ hs _ _ => hs)
    ⟨⟨⟨bG, bN⟩, by simpa [slots, HNIL.out] using bA, bS⟩, hB0⟩
    (fun x a' W => ∃ Bx, w.heap.size + 3 < Bx ∧ Lies W Bx 33 #[.int .i64 x.2.1.1, .int .i64 x.2.1.2.1, .int .i64 x.2.1.2.2.1, .int .i64 x.2.1.2.2.2] ∧ a' = { tmps := #[.pointer (some ⟨p, 0, none⟩), .int .i64 g, .int .i64 n, .int .i64 lim, undef, .pointer (some ⟨w.heap.size, 0, none⟩), .pointer (some ⟨w.heap.size + 1, 0, none⟩), undef, .int .i64 0, .pointer (some ⟨w.heap.size + 1 + 1, 0, none⟩), undef, .pointer (some ⟨Bx, 0, none⟩), .int .i64 lim, .int .i64 n, .int .i64 (lim - n), .pointer (some ⟨p, 0, none⟩), .pointer (some ⟨p, 0, none⟩), .pointer (some ⟨p, 1, none⟩), .slice a m.length c, .func (.func 34) #[] #[.pointer (some ⟨w.heap.size + 3, 0, none⟩)], .int .i64 x.1, aggQ x.2.1, undef, undef, undef, undef, undef, undef, undef, undef, undef, undef, undef, undef, undef, undef, undef, undef, undef], defers := [] })
    (fun x a' _ X Y row hs hg hr => by obtain ⟨Bx, h1, h2, h3⟩ := hs; exact ⟨Bx, h1, lies_own h2 hg hr, h3⟩)
    ?assign ?body ?done ?stop
  case assign =>
    rintro l pre x W K ⟨⟨⟨bG1, bN1⟩, bA1, bS1⟩, hB1⟩ hK
    simp only [encI, aggQ]
    gi_wp2
    exact hK _ _ ((KeepsOthers.alloc _ _).from _) ((KeepB.refl W).alloc _) ⟨⟨⟨bG1.alloc _, bN1.alloc _⟩, bA1.alloc _, bS1.alloc _⟩, hB1.alloc hB1.size _⟩ ⟨W.heap.size, bS1.lt, Lies.made W 33 _, rfl⟩
  case body =>
    rintro l pre ⟨xi, ⟨s0, s1, s2, s3⟩, hrt⟩ a' W hl _ ⟨⟨⟨bG1, bN1⟩, bA1, bS1⟩, hB1⟩ ⟨Bx, hBx, hLx, rfl⟩ hlt
    have HS := Lib.hid (HSNOC.out (slots pre) (s0, s1, s2, s3))
    have HSN := Lib.hid (slots_snoc pre (xi, ⟨(s0, s1, s2, s3), hrt⟩))
    have HBB := HBND.out (slots pre) slots_rt
    generalize hv : A (slots pre) = v at bA1 HS HBB
    clear hv
    obtain ⟨hv1, hv2⟩ := HBB
    obtain ⟨r1, r2, r3⟩ := hrt
    simp only at r1 r2 r3 hLx
    have cG := bG1.cell
    have cN := bN1.cell
    have cA := bA1.cell
    have fA := bA1.frozen
    have x1 : W.cell? ⟨Bx, 1, none⟩ = some (.int .i64 s1) := hLx.cell 1
    have x2 : W.cell? ⟨Bx, 2, none⟩ = some (.int .i64 s2) := hLx.cell 2
    have x3 : W.cell? ⟨Bx, 3, none⟩ = some (.int .i64 s3) := hLx.cell 3
    have HI := Lib.hid (show ∀ u, stepL g n v (s0, s1, s2, s3) = u → A (slots (pre ++ [(xi, ⟨(s0, s1, s2, s3), ⟨r1, r2, r3⟩⟩)])) = u from fun u hu => by rw [HSN.out]; exact HS.out.trans hu)
    have HBO := Lib.hid (And.intro bG1 (And.intro bN1 (And.intro bA1 (And.intro bS1 hB1))))
    clear bG1 bN1 bA1 bS1 hB1 hLx HS
    by_cases hg : s1 = g
    · have t1 : (s1 == g) = true := by simp [hg]
      by_cases hav : v < s3
      · have t2 : decide (v < s3) = true := by simp [hav]
        have HV := Lib.hid (show stepL g n v (s0, s1, s2, s3) = min v (s2 - n) by unfold stepL; exact if_pos ⟨hg, hav⟩)
        clear hg hav
        gi_wp2
        all_goals
          obtain ⟨bG1, bN1, bA1, bS1, hB1⟩ := HBO.out
          refine ⟨(KeepsOthers.setCell _ _ _).from _, (KeepB.refl _).setCell (by simp; omega) (by simp) _, ⟨⟨bG1.other (by omega) _, bN1.other (by omega) _⟩, ?_, bS1.other (by omega) _⟩, hB1.setCell (by simp; omega) _⟩
          first
          | rw [HI.out (s2 - n) (HV.out.trans (by omega))]; exact bA1.set _
          | rw [HI.out v (HV.out.trans (by omega))]; exact bA1.set _
      · have t2 : decide (v < s3) = false := by simp; omega
        have HV := Lib.hid (show stepL g n v (s0, s1, s2, s3) = v by unfold stepL; exact if_neg (fun h => hav h.2))
        clear hg hav
        gi_wp2
        obtain ⟨bG1, bN1, bA1, bS1, hB1⟩ := HBO.out
        exact ⟨KeepsFrom.refl _ _, KeepB.refl _, ⟨⟨bG1, bN1⟩, by rw [HI.out _ HV.out]; exact bA1, bS1⟩, hB1⟩
    · have t1 : (s1 == g) = false := by simp [hg]
      have HV := Lib.hid (show stepL g n v (s0, s1, s2, s3) = v by unfold stepL; exact if_neg (fun h => hg h.1))
      clear hg
      gi_wp2
      obtain ⟨bG1, bN1, bA1, bS1, hB1⟩ := HBO.out
      exact ⟨KeepsFrom.refl _ _, KeepB.refl _, ⟨⟨bG1, bN1⟩, by rw [HI.out _ HV.out]; exact bA1, bS1⟩, hB1⟩
  case done =>
    rintro D ys W hD hS ⟨⟨⟨bG1, bN1⟩, bA1, bS1⟩, hB1⟩ hK
    rw [HEND.out _ hS] at bA1
    have cA := bA1.cell
    gi_wp2
    refine ⟨by simp, .inl ⟨_, _, rfl, run_takeDeferred hK, ?_⟩⟩
    exact ⟨_, results_tmp rfl _ _ _, rfl, hB1.trans (belowK_b (w := w) (Nat.le_refl _) W D _ _ (by omega) hK rfl rfl)⟩
  case stop =>
    rintro D c pre W _ _ h _
    exact h.elim
theorem latest {p : Nat} {a : Option Addr} {c : Nat} {m : List Ky} {w : World} (g n lim : Int) (hp : w.cell? ⟨p, 1, none⟩ = some (.slice a m.length c)) (hpl : p < w.heap.size) (hk : Keys w a c m) (hr : ∀ k ∈ m, Rt k) (hl : m.length ≤ 2000)
    (hn1 : 1 ≤ n) (hn2 : n ≤ 1048576) (h0 : 0 ≤ lim) (h1 : lim ≤ 1099511627776) :
    Calls Try.prog 22 #[.pointer (some ⟨p, 0, none⟩), .int .i64 g, .int .i64 n, .int .i64 lim] w (Tells (.int .i64 (latL g n (lim - n) m)) w) :=
  callsIn_wide.1 (latest_in g n lim hp hpl hk hr hl hn1 hn2 h0 h1)
end Go.Proofs.Ytojnkkkgkmgagaa
