/- What is proved: of whatever list of numbers the program's sum is the document's own: the sum of all, or 0 and false where a beginning of it is over (promise P1.1); no condition. -/
import Derived.Test.YtibmlkcbhlomhaaRows
import Derived.Test.YtibmlkcbhlomhaaReads
import Derived.WalkKit
import Derived.ProofKit
import Derived.OpenShut
import Derived.ShutString
import Derived.ChangeOld
import Derived.Below
namespace Go.Proofs.Ytibmlkcbhlomhaa.tickAll
open Go.ChangeShapes Go.WideShapes Go.ChangeAt Go.RowKit
open Go.ChangeMaps (open_string shut_string)
set_option linter.unusedVariables false

theorem own : ownKnob Try.prog.godebug = none := by kernel_rfl
theorem laidOut : laidOutB Try.prog = true := by kernel_rfl

def IsRow (k : IntKind) (w : World) (a : Option Addr) (len cap : Nat) (zs : List Int) : Prop :=
  (a = none ∧ len = 0 ∧ cap = 0 ∧ zs = []) ∨
  ∃ x, a = some x ∧ len ≤ cap ∧ cap ≤ maxLen ∧ zs.length = cap ∧ (∀ i, i < zs.length → w.cell? (x.add i) = some (.int k (zs.getD i 0))) ∧ ∀ n ∈ zs, (Lit.int k n).wf = true
/-- Where the statement's own loop stands behind k rounds. -/
def Stands (l : List Int) (k : Nat) (n : Int) (g : Bool) : Prop := if g then Tk.sumFrom n (l.drop k) = Tk.sumFrom 0 l else Tk.sumFrom 0 l = none ∧ n = 0
set_option maxHeartbeats 1000000 in
theorem core (a : Option Addr) (len cap : Nat) (l : List Int) (w : World) (hm : len ≤ maxLen) (hr : Reads w a len l) :
    Calls Try.prog 4 #[.slice a len cap] w (Woke w) := by
  have HM := Lib.hid hm
  unfold maxLen at hm
  have HR := Lib.hid hr
  clear hr
  by_cases hbig : 1000 < len
  · have t1 : decide ((1000 : Int) < (len : Int)) = true := by simp; omega
    go_enter Try.func4, Try.ntmps4
    go_wp2_with (fail)
    refine (awake_any _).mono ?_
    rintro e w1 ⟨rfl, hb⟩
    go_wp2_with (fail)
    refine (awake_any _).mono ?_
    rintro e w2 ⟨rfl, hb2⟩
    go_wp2
    go_ret
    exact ⟨rfl, hb.trans (hb2.mono hb.size)⟩
  · have t1 : decide ((1000 : Int) < (len : Int)) = false := by simp; omega
    go_enter Try.func4, Try.ntmps4
    go_wp2_with (fail)
    refine (awake_any _).mono ?_
    rintro e w1 ⟨rfl, hb⟩
    have HS := Lib.hid (HR.out.below (Nat.le_refl _) hb)
    go_wp2
    go_loop [3, 4, 5] (fun s t u => ∃ (k : Nat) (n : Int) (g : Bool), k ≤ len ∧ s = .int .i64 n ∧ t = .bool g ∧ u = .int .i64 k ∧ Stands l k n g) (fun _ _ u => len - (intOf u).toNat)
    case atStart => exact ⟨0, 0, true, Nat.zero_le _, rfl, rfl, rfl, rfl⟩
    case round =>
      obtain ⟨k, n, g, hk, rfl, rfl, rfl, hst⟩ := hrel
      have HT := Lib.hid hst
      clear hst
      by_cases hlt : k < len
      · have t2 : decide ((k : Int) < (len : Int)) = true := by simp; omega
        cases g
        · go_wp2_with (fail)
          refine (Sum_reads cap HM.out HS.out).mono ?_
          rintro e w' ⟨rfl, rfl⟩
          have e1 : Tk.sumFrom 0 l = none ∧ n = 0 := HT.out
          have e2 : Tk.sumV l = 0 := by simp [Tk.sumV, e1.1]
          have e3 : Tk.sumB l = false := by simp [Tk.sumB, e1.1]
          obtain ⟨_, rfl⟩ := e1
          rw [e2, e3]
          clear e2 e3
          go_wp2
          go_ret
          exact ⟨rfl, hb⟩
        · obtain ⟨hl, hx⟩ := HS.out
          have hx' : ∃ b off, a = some ⟨b, off, none⟩ ∧ b < w1.heap.size ∧ ∀ i, i < len → w1.cell? ⟨b, off + i, none⟩ = some (.int .i64 (l.getD i 0)) := by
            rcases hx with h0 | h
            · omega
            · exact h
          clear hx
          obtain ⟨b, off, rfl, _, hc⟩ := hx'
          have hcell := hc k hlt
          clear hc
          have HL := Lib.hid hl
          clear hl
          have HN := Lib.hid (Tk.from_step (s := n) (l := l) (k := k) (by rw [HL.out]; exact hlt))
          generalize l.getD k 0 = z at hcell HN
          have e1 : Tk.sumFrom n (l.drop k) = Tk.sumFrom 0 l := HT.out
          have HE := Lib.hid e1
          clear e1
          have hst : Stands l (k + 1) (Tk.addV n z) (Tk.addB n z) := by
            unfold Stands
            cases hB : Tk.addB n z
            · have : Tk.sumFrom 0 l = none := by rw [← HE.out, HN.out, hB]; rfl
              exact ⟨this, by simp [Tk.addV, hB]⟩
            · have : Tk.sumFrom (Tk.addV n z) (l.drop (k + 1)) = Tk.sumFrom 0 l := by rw [← HE.out, HN.out, hB]; rfl
              exact this
          have HST := Lib.hid hst
          clear hst
          go_wp2_with (go_at_call 13; refine (refAdd_any _ _ _).mono ?_; rintro e w' ⟨rfl, rfl⟩)
          go_round
          case rel => exact ⟨k + 1, _, _, by omega, rfl, rfl, by go_num, HST.out⟩
          case measure => simp [intOf]; omega
      · have t2 : decide ((k : Int) < (len : Int)) = false := by simp; omega
        have t3 : decide (k < len) = false := by simp; omega
        have hs : Stands l k n g := HT.out
        have e2 : Tk.sumV l = n ∧ Tk.sumB l = g := by
          have hd : l.drop k = [] := List.drop_of_length_le (by have := HS.out.1; omega)
          unfold Stands at hs
          cases g
          · have : Tk.sumFrom 0 l = none ∧ n = 0 := hs
            simp [Tk.sumV, Tk.sumB, this.1, this.2]
          · have : Tk.sumFrom n (l.drop k) = Tk.sumFrom 0 l := hs
            rw [hd] at this
            have : Tk.sumFrom 0 l = some n := this.symm
            simp [Tk.sumV, Tk.sumB, this]
        have HE := Lib.hid e2
        clear e2 hs
        go_wp2_with (fail)
        refine (Sum_reads cap HM.out HS.out).mono ?_
        rintro e w' ⟨rfl, rfl⟩
        rw [HE.out.1, HE.out.2]
        have t4 : (g == g) = true := by simp
        go_wp2
        go_ret
        exact ⟨rfl, hb⟩
theorem walk (a0 : Option Addr) (len0 cap0 : Nat) (z0 : List Int) (w : World) (w0 : IsRow .i64 w a0 len0 cap0 z0) :
    Calls Try.prog 4 #[.slice a0 len0 cap0] w fun e w' => e = .returned (.bool true) ∧ Below w.heap.size w w' := by
  rcases w0 with ⟨rfl, rfl, rfl, rfl⟩ | ⟨x, rfl, hl, hm, hz, hcell, hwz⟩
  · exact core none 0 0 [] w (Nat.zero_le _) ⟨rfl, .inl rfl⟩
  · exact core (some x) len0 cap0 (z0.take len0) w (by omega) (Reads.mk hl hz hcell)

set_option maxRecDepth 100000 in
theorem lifted (os : Os) (started : os.Started) (H : Type) (enc : TypeId × Value → H) :
    ReturnsInHanded {} Try.checked os 4 .any (Rows.tickAllSpec.pre6 enc Try.prog Try.f4 Rows.tickAllRow.domain false) (Rows.tickAllSpec.post enc Try.prog Try.f4 false true false false) := by
  refine returnsInHanded_of_change (C := Try.checked) own started (by kernel_rfl) Try.func4
    (ChangeSpec.witness6 (enc := enc) (C := Try.checked) false ⟨#[], #[.slice none 0 0], []⟩ 8 (by kernel_rfl) (by kernel_rfl) (by kernel_rfl) (by kernel_rfl)) ?_
  intro W base args ds gs before hval0 hW hcnd _
  have hval : ∀ (j : Nat) t v, Try.f4.params[j]? = some t → args[j]? = some v → Value.okWide Try.prog W .any base t v := hval0
  have hW' := hW
  obtain ⟨p, q, hA0, hV, rfl, hfz, hnd⟩ := hW
  have hA : DataW.TrodAll enc Try.prog W 0 (fun _ => true) true Try.f4.params.toList args.toList ds p := hA0
  rw [Try.params4] at hA hval
  obtain ⟨v0, vs0, d0, ds0, p0, q0, hargs, rfl, rfl, h0, r0⟩ := trodAll_cons hA
  obtain ⟨rfl, rfl, rfl⟩ := trodAll_nil r0
  obtain rfl : args = #[v0] := by cases args; simp_all
  obtain ⟨rfl, rfl⟩ := trodVars_none hV
  obtain ⟨a0, len0, cap0, rfl⟩ := okWide_slice Try.underlying26 (hval 0 26 v0 rfl rfl)
  have k0 := h0
  have lt0 : ∀ x ∈ p0, x.block < W.heap.size := by obtain ⟨m, hm⟩ := k0; exact DataW.trod_lt m _ _ _ hm
  obtain ⟨z0, w0⟩ : ∃ zs, IsRow .i64 W a0 len0 cap0 zs := by
    obtain ⟨fuel, hf⟩ := h0
    rcases open_ints Try.underlying26 Try.underlying3 (by kernel_rfl) hf with ⟨hcs, _⟩ | ⟨x, l, c, zs, hcs, _, hl, hm, hz, _, hcell, hwz⟩
    · simp [Value.cells] at hcs
      obtain ⟨rfl, rfl, rfl⟩ := hcs
      exact ⟨[], .inl ⟨rfl, rfl, rfl, rfl⟩⟩
    · simp [Value.cells] at hcs
      obtain ⟨rfl, rfl, rfl⟩ := hcs
      exact ⟨zs, .inr ⟨_, rfl, hl, hm, by simpa using hz, hcell, hwz⟩⟩
  clear hA0 hval0
  refine (walk a0 len0 cap0 z0 W w0).mono fun e W' ⟨he, bel⟩ => ?_
  subst he
  exact ⟨_, rfl, _, _, _, [], _, [], hW', trodAll_mk1 (shut_bool Try.underlying4 _), (trodAll_cons_mk (Below.trod laidOut (by kernel_rfl) (of_decide_eq_true (by kernel_rfl)) k0 bel lt0) trodAll_mk0), rfl, bel.frame _, fun h => by cases h⟩

theorem over : Rows.tickAllRow.holds Try.pinned (OpenSpec.ofChange Rows.tickAllSpec) :=
  OpenClaim.holds_of_wide 4 Try.f4 rfl rfl rfl rfl rfl rfl rfl ⟨rfl, rfl, rfl, rfl, rfl⟩ rfl rfl rfl rfl rfl (by kernel_rfl) Try.func4 (by kernel_rfl)
    (of_decide_eq_true (by kernel_rfl)) (by unfold Func.isWrapper; first | (rw [if_pos (by decide +kernel)]; kernel_rfl) | (rw [if_neg (by decide +kernel)]; exact ⟨rfl, rfl⟩))
    (fun os started H enc _ => lifted os started H enc)

theorem proved : Rows.TickAllSaid := over
#print axioms proved
end Go.Proofs.Ytibmlkcbhlomhaa.tickAll
namespace Go.Proofs.Ytibmlkcbhlomhaa
theorem tickAll_holds : Rows.TickAllSaid := tickAll.proved
end Go.Proofs.Ytibmlkcbhlomhaa
