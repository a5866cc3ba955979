/- The time goes on: what is due comes, in order. -/
import Derived.Test.YtlodfipiodlgdaaTa
namespace Go.Proofs.Ytlodfipiodlgdaa
open Go.RowKit

/-- What came, in a row of its own; the wheel at the new time with all others. -/
def Comes (S : Nat → Prop) (B p room : Nat) (m : List Ky) (t : Int) (w : World) (e : Ending) (w' : World) : Prop :=
  ∃ A n c, e = .returned (.tuple #[.slice A n c, .int .i64 0]) ∧ n = (due m t).length ∧ n ≤ c ∧ (A = none ∧ n = 0 ∨ ∃ g, A = some ⟨g, 0, none⟩ ∧ w.heap.size ≤ g ∧ KRow w' g c (due m t)) ∧ Whl S B w' p room t (stay m t) ∧ Turns S w w'
/-- Some places were asked. -/
structure Mid (S : Nat → Prop) (B p room : Nat) (now : Int) (m : List Ky) (t : Int) (w : World) (k : Nat) (A : Option Addr) (n c : Nat) (xs mm : List Ky) (X : World) : Prop where
  len : xs.length = n
  own : X.ownsRow w.heap.size 60 2 (.slice A n c) n (flatQ xs)
  whl : Whl S B X p room now mm
  turns : Turns S w X
  perm : (xs ++ mm).Perm m
  came : ∀ d ∈ xs, d.1 ≤ t
  sub : mm.Sublist m
  rest : ∀ d ∈ mm, ∀ q : Nat, q < k → d.1 % 64 = (now + (q : Int)) % 64 → t < d.1
def MidRel (S : Nat → Prop) (B p room : Nat) (now : Int) (m : List Ky) (t : Int) (w : World) (K : Nat) (d i : Value) (W : World) : Prop :=
  ∃ (k : Nat) (X : World) (A : Option Addr) (n c : Nat) (xs mm : List Ky), k ≤ K ∧ i = .int .i64 (k : Int) ∧ d = .slice A n c ∧ X = W ∧ n ≤ 1024 ∧ Mid S B p room now m t w k A n c xs mm X
section
variable {S : Nat → Prop} {B p room : Nat} {now : Int} {w : World} {m : List Ky}
theorem Mid.start (t : Int) (h : Whl S B w p room now m) : Mid S B p room now m t w 0 none 0 0 [] m w :=
  ⟨rfl, World.ownsRow_nil _ _ _ _, h, Turns.refl _ _, by simp, fun d hd => by simp at hd, List.Sublist.refl _, fun d _ q hq => by omega⟩
set_option maxHeartbeats 400000 in
theorem adv_no (t : Int) (h : Whl S B w p room now m) (ht : t < now ∨ 1099511627776 < t) : Calls Try.prog 18 #[.pointer (some ⟨p, 0, none⟩), .int .i64 t] w (Says (.tuple #[.slice none 0 0, .int .i64 1]) w) := by
  obtain ⟨V, hV⟩ := h.body
  have KM := Lib.hid (mayCome (p := p) t hV.now_)
  rw [may_no ht] at KM
  clear hV h ht
  go_enter Try.func18, Try.ntmps18
  go_wp2_with (fail)
  with_reducible refine KM.out.mono ?_
  rintro e w' ⟨rfl, rfl⟩
  go_wp2
  go_ret2
  exact ⟨rfl, rfl⟩
/-- One place more. -/
theorem Mid.next {t : Int} {k j n : Nat} {A : Option Addr} {c : Nat} {xs mm : List Ky} {X X1 X2 : World} {A2 : Option Addr} {c2 : Nat} (hw : Whl S B w p room now m) (h : Mid S B p room now m t w k A n c xs mm X) (hj : (now + (k : Int)) % 64 = (j : Int))
    (hw1 : Whl S B X1 p room now (butAt mm j t)) (ht1 : Turns S X X1)
    (hg2 : X1.grownBy X2 (Value.slice A n c).ownBlock) (ho2 : X2.ownsRow w.heap.size 60 2 (.slice A2 (n + (dueAt mm j t).length) c2) (n + (dueAt mm j t).length) (flatQ (xs ++ dueAt mm j t))) :
    Mid S B p room now m t w (k + 1) A2 (n + (dueAt mm j t).length) c2 (xs ++ dueAt mm j t) (butAt mm j t) X2 := by
  have hA : ∀ q, (Value.slice A n c).ownBlock = some q → w.heap.size ≤ q := fun q hq => (own_lt h.own hq).1
  have hnS : ∀ q, S q → some q ≠ (Value.slice A n c).ownBlock := fun q hq e => by
    have h1 := hA q e.symm
    have h2 := (hw.inS q hq).2
    omega
  refine ⟨by rw [List.length_append, h.len], ho2, hw1.same hg2.size (fun q hq => hg2.block q (hw1.inS q hq).2 (hnS q hq)), ?_, ?_, ?_, (butAt_sub mm j t).trans h.sub, ?_⟩
  · have t1 := h.turns.trans ht1 (fun _ _ hq => hq)
    refine ⟨hg2.os.trans t1.os, hg2.tape.trans t1.tape, hg2.output.trans t1.output, Nat.le_trans t1.size hg2.size, fun q hq hS => ?_⟩
    rw [hg2.block q (Nat.lt_of_lt_of_le hq t1.size) (fun e => by have := hA q e.symm; omega)]
    exact t1.block q hq hS
  · rw [List.append_assoc]
    exact ((parts_perm mm j t).append_left xs).trans h.perm
  · intro d hd
    rcases List.mem_append.1 hd with hd | hd
    · exact h.came d hd
    · exact (dueAt_mem.1 hd).2.2
  · intro d hd q hq hdq
    obtain ⟨h1, h2⟩ := butAt_mem.1 hd
    by_cases e : q = k
    · subst e
      by_cases hle : d.1 ≤ t
      · exact absurd ⟨hdq.trans hj, hle⟩ h2
      · omega
    · exact h.rest d h1 q (by omega) hdq
/-- All places were asked that may have one that is due. -/
theorem Mid.fin {t : Int} {K n c : Nat} {A : Option Addr} {xs mm : List Ky} {X : World} (hw : Whl S B w p room now m) (h : Mid S B p room now m t w K A n c xs mm X) (hK : K = 64 ∨ t - now + 1 ≤ (K : Int)) :
    xs.Perm (due m t) ∧ mm = stay m t := by
  refine all_due h.perm h.came (fun d hd => ?_) hw.good.srt h.sub
  have hdn := (hw.times d (h.sub.subset hd)).1
  by_cases hle : d.1 ≤ t
  · rcases hK with hK | hK
    · refine h.rest d hd ((d.1 - now) % 64).toNat (by omega) ?_
      omega
    · refine h.rest d hd (d.1 - now).toNat (by omega) ?_
      omega
  · omega
theorem own_row {W : World} {B n c : Nat} {A : Option Addr} {l : List Ky} (h : W.ownsRow B 60 2 (.slice A n c) n (flatQ l)) : n ≤ c ∧ ((A = none ∧ n = 0 ∧ l = []) ∨ ∃ g, A = some ⟨g, 0, none⟩ ∧ B ≤ g ∧ KRow W g c l) := by
  have hlen := h.1
  rw [length_flatQ] at hlen
  rcases h.2 with ⟨e1, e2⟩ | ⟨g, cap, cur, e1, hb, hg, hnc, _, hsz, ht⟩
  · cases e1
    exact ⟨by omega, .inl ⟨rfl, e2, List.eq_nil_of_length_eq_zero (by omega)⟩⟩
  · cases e1
    refine ⟨hnc, .inr ⟨g, rfl, hb, cur, hg, hsz, by omega, fun i t hi j v hj => ?_⟩⟩
    have := flatQ_at j v hi hj
    rw [← ht, List.getElem?_take] at this
    split at this
    · rw [← Array.getElem?_toList]; exact this
    · cases this
set_option maxRecDepth 100000 in
set_option maxHeartbeats 2000000 in
theorem adv_yes (t : Int) (h : Whl S B w p room now m) (h1 : now ≤ t) (h2 : t ≤ 1099511627776) : Calls Try.prog 18 #[.pointer (some ⟨p, 0, none⟩), .int .i64 t] w (Comes S B p room m t w) := by
  obtain ⟨V, hV⟩ := h.body
  have KM := Lib.hid (mayCome (p := p) t hV.now_)
  rw [may_yes h1 h2] at KM
  have c0 := hV.now_
  have hpw := h.lt
  have n0 := h.n0
  have n1 := h.n1
  have HH := Lib.hid h
  clear hV h
  go_enter Try.func18, Try.ntmps18
  go_wp2_with (fail)
  with_reducible refine KM.out.mono ?_
  rintro e w' ⟨rfl, rfl⟩
  go_upto_region 5 with fail
  obtain ⟨K, hK1, hK2, hK3⟩ : ∃ K : Nat, min (t - now + 1) 64 = (K : Int) ∧ K ≤ 64 ∧ (K = 64 ∨ t - now + 1 ≤ (K : Int)) := ⟨(min (t - now + 1) 64).toNat, by omega, by omega, by omega⟩
  rw [hK1]
  have HK := Lib.hid hK3
  clear hK1 hK3 c0
  go_loopw [6, 20] (fun d i W => MidRel S B p room now m t w K d i W) (fun _ i _ => K - (intOf i).toNat)
  case atStart => exact ⟨0, w, none, 0, 0, [], m, by omega, rfl, rfl, rfl, by omega, Mid.start t HH.out⟩
  case round =>
    obtain ⟨k, X, A, n, c, xs, mm, hk, rfl, rfl, rfl, hn, hmid⟩ := hrel
    have HM := Lib.hid hmid
    clear hmid
    by_cases hlt : k < K
    · have t1 : decide ((k : Int) < (K : Int)) = true := by simp; omega
      obtain ⟨V1, hV1⟩ := HM.out.whl.body
      have c1 := hV1.now_
      have hpx := HM.out.whl.lt
      clear hV1
      obtain ⟨j, hj, hjk⟩ : ∃ j : Nat, j < 64 ∧ (now + (k : Int)) % 64 = (j : Int) := ⟨((now + (k : Int)) % 64).toNat, by omega, by omega⟩
      have HJ := Lib.hid hjk
      clear hjk
      have KT := Lib.hid (takeAt j t hj HM.out.whl)
      go_wp2_with (fail)
      rw [HJ.out]
      with_reducible refine KT.out.mono ?_
      rintro e X1 ⟨A1, c2, rfl, hk1, hw1, ht1⟩
      have hdl : n + (dueAt mm j t).length ≤ 1024 := by
        have e1 := HM.out.perm.length_eq
        have e2 := dueAt_len mm j t
        have e3 := HM.out.len
        have e4 := HH.out.len
        have e5 := HH.out.r2
        rw [List.length_append] at e1
        omega
      have ho1 : X1.ownsRow w.heap.size 60 2 (.slice A n c) n (flatQ xs) := own_same HM.out.own (fun q hq => ht1.block q (own_lt HM.out.own hq).2 (fun hS => by have h1 := (own_lt HM.out.own hq).1; have h2 := (HH.out.inS q hS).2; omega))
      obtain ⟨A2, c3, X2, hrun, ho2, hg2, -⟩ := run_append_keys (w := X1) 52 (base := w.heap.size) (c := c2) ho1 rfl hk1 (by omega) (Nat.le_trans HM.out.turns.size ht1.size)
      have HN := Lib.hid (HM.out.next HH.out HJ.out hw1 ht1 hg2 ho2)
      have HR := Lib.hid hrun
      clear hk1 hw1 ht1 ho1 ho2 hg2 hrun
      generalize (dueAt mm j t).length = q at hdl HN HR
      go_wp2_with (
        at_builtin
        refine Lib.wpList_append_run X1 rfl (.tmp 23) (.tmp 33) 52 52 rfl _ _ rfl rfl _ _ HR.out ?_)
      go_roundw
      case rel => exact ⟨k + 1, _, A2, n + q, c3, _, _, by omega, by go_num, rfl, rfl, hdl, HN.out⟩
      case measure => simp [intOf]; omega
    · have t1 : decide ((k : Int) < (K : Int)) = false := by simp; omega
      have t1' : decide (k < K) = false := by simp; omega
      obtain rfl : k = K := by omega
      obtain ⟨hperm, hstay⟩ := HM.out.fin HH.out HK.out
      have hsrt : Srt (due m t) := HH.out.good.srt.sublist (due_sub m t)
      have hlen : (due m t).length = n := by rw [← hperm.length_eq]; exact HM.out.len
      obtain ⟨hnc, hrow⟩ := own_row HM.out.own
      have HLN := Lib.hid hlen
      have hws := HM.out.whl.eq hstay
      have HW := Lib.hid hws
      have HTT := Lib.hid HM.out.turns
      have HS : Hid (∀ d ∈ stay m t, t ≤ d.1) := fun d hd => by have := (stay_mem.1 hd).2; omega
      have hxl := HM.out.len
      rcases hrow with ⟨rfl, rfl, hnil⟩ | ⟨g, rfl, hge, hrow⟩
      · obtain ⟨V1, hV1⟩ := hws.body
        have c1 := hV1.now_
        have f1 := hV1.thawed 1
        have hpx := hws.lt
        clear hV1 hws hlen hperm hstay hsrt hxl hnil
        go_wp2_with (fail)
        with_reducible refine (sortNone _ _ _).mono ?_
        rintro e w2 ⟨rfl, rfl⟩
        go_wp2
        go_ret2
        exact ⟨none, 0, c, rfl, HLN.out.symm, hnc, .inl ⟨rfl, rfl⟩, HW.out.setNow (by omega) h2 HS.out, HTT.out.setCell (.inr HH.out.sp) _⟩
      · have KS := sortRow (c := c) hrow hperm hsrt (by omega)
        rw [hxl] at KS
        have HKS := Lib.hid KS
        have hgS : ∀ q, S q → ¬ q = g := fun q hq e => by have := (HH.out.inS q hq).2; omega
        have HGS := Lib.hid hgS
        have HGE := Lib.hid hge
        clear KS hws hlen hperm hstay hsrt hxl hrow hgS hge
        go_wp2_with (fail)
        with_reducible refine HKS.out.mono ?_
        rintro e X2 ⟨rfl, hr2, ht2⟩
        have HW2 := Lib.hid (HW.out.turns ht2 HGS.out)
        obtain ⟨V1, hV1⟩ := HW2.out.body
        have c1 := hV1.now_
        have f1 := hV1.thawed 1
        have hpx := HW2.out.lt
        have HR2 := Lib.hid hr2
        have HT2 := Lib.hid ht2
        clear hV1 hr2 ht2
        go_wp2
        go_ret2
        exact ⟨_, n, c, rfl, HLN.out.symm, hnc, .inr ⟨g, rfl, HGE.out, HR2.out.there (fun e => HGS.out p HH.out.sp e.symm) _⟩, HW2.out.setNow (by omega) h2 HS.out, (HTT.out.trans HT2.out (fun i hi e => by have := HGE.out; omega)).setCell (.inr HH.out.sp) _⟩
end
end Go.Proofs.Ytlodfipiodlgdaa
