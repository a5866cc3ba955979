/- The statements' own tokens of a text. -/
import Derived.Test.YteolepmopajamaaLTk
import Derived.OwnWalk
namespace Go.Proofs.Yteolepmopajamaa.Lx
open Go.RowKit

def RefRel (l : List UInt8) (W0 : World) (o vl vb vi : Value) (W : World) : Prop :=
  ∃ ts i line beg A c, Goes l ts i line beg ∧ o = .slice A ts.length c ∧ vl = .int .i64 (line : Nat) ∧ vb = .int .i64 (beg : Nat) ∧ vi = .int .i64 (i : Nat) ∧
    W.ownsRow W0.heap.size 45 5 (.slice A ts.length c) ts.length (flatT ts) ∧ Below W0.heap.size W0 W
/-- An inner walk stands n bytes on. -/
def OnRel (i m : Nat) (W : World) (j : Value) (W' : World) : Prop := ∃ n : Nat, n ≤ m ∧ j = .int .i64 ((i + 1 + n : Nat) : Int) ∧ W' = W
theorem RefRel.next {l : List UInt8} {W0 W w1 : World} {ts : List Tok} {t : Tok} {i line beg c c1 : Nat} {A A1 : Option Addr} {o : Obj} {vl vb vi : Value} (hg : Goes l (ts ++ [t]) i line beg) (hb : Below W0.heap.size W0 W) (ho : W.ownsRow W0.heap.size 45 5 (.slice A ts.length c) ts.length (flatT ts))
    (hl : LongerT W0.heap.size (W.alloc o) (.slice A ts.length c) (ts.length + 1) (ts ++ [t]) A1 c1 w1) (hvl : vl = .int .i64 (line : Nat)) (hvb : vb = .int .i64 (beg : Nat)) (hvi : vi = .int .i64 (i : Nat)) : RefRel l W0 (.slice A1 (ts.length + 1) c1) vl vb vi w1 :=
  ⟨ts ++ [t], i, line, beg, A1, c1, hg, by simp, hvl, hvb, hvi, by simpa using hl.1, Below.grown (hb.alloc hb.size _) hl.2.1 (by have := hb.size; simp; omega) (fun k hk => (own_lt ho hk).1)⟩
theorem lies_tok (w : World) (kind value line col : Nat) (T : List UInt8) {z : Int} (hz : z = (col : Int)) : Lies (w.alloc (.cells #[.int .i64 (kind : Int), .string ⟨T.toArray⟩, .int .i64 (value : Int), .int .i64 (line : Int), .int .i64 z] 45)) w.heap.size 45 (cellsT ⟨kind, T, value, line, col⟩).toArray := by
  subst hz
  exact Lies.made w 45 _
/-- The byte n places on. -/
theorem byte_on {l p q : List UInt8} {i n : Nat} (hr : l.drop (i + 1) = p ++ q) {y : UInt8} (hy : l[i + 1 + n]? = some y) : (n < p.length → y ∈ p) ∧ (n = p.length → ∃ r, q = y :: r) := by
  rw [drop_at hr] at hy
  constructor
  · intro h
    rw [List.getElem?_append_left h] at hy
    exact List.mem_of_getElem? hy
  · rintro rfl
    rw [List.getElem?_append_right (Nat.le_refl _), Nat.sub_self] at hy
    cases q with
    | nil => simp at hy
    | cons z r =>
      have : z = y := by simpa using hy
      exact ⟨r, by rw [this]⟩

set_option maxRecDepth 100000 in
set_option maxHeartbeats 16000000 in
theorem refTokens (l : List UInt8) (a : Option Addr) (cap : Nat) {w : World} (hl : l.length ≤ 1000000) (hb : Bytes w a cap l) :
    Calls Try.prog 22 #[.slice a l.length cap] w (Lexed l w) := by
  obtain ⟨W0, hW0⟩ : ∃ W0, W0 = w.alloc (.cells #[.int .i64 0, .int .i64 0, .int .i64 0] 29) := ⟨_, rfl⟩
  have HB0 : Hid (Bytes W0 a cap l) := by rw [hW0]; exact hb.below (Nat.le_refl _) ((Below.refl _ _).alloc (Nat.le_refl _) _)
  have HW : Hid (Below w.heap.size w W0 ∧ W0.heap.size = w.heap.size + 1 ∧ Lies W0 w.heap.size 29 #[.int .i64 0, .int .i64 0, .int .i64 0]) := by
    rw [hW0]
    exact ⟨(Below.refl _ _).alloc (Nat.le_refl _) _, by simp, Lies.made _ _ _⟩
  clear hb
  go_enter Try.func22, Try.ntmps22
  go_wp2
  rw [← hW0]
  clear hW0
  go_loopw [4, 5, 6, 7] (fun o vl vb vi W => RefRel l W0 o vl vb vi W) (fun _ _ _ vi _ => l.length - (intOf vi).toNat)
  case atStart => exact ⟨[], 0, 1, 0, none, 0, Goes.start l, rfl, rfl, rfl, rfl, World.ownsRow_nil _ _ _ _, Below.refl _ _⟩
  case round =>
    obtain ⟨ts, i, line, beg, A, c, hgo, rfl, rfl, rfl, rfl, hown, hbel⟩ := hrel
    have hgo' := hgo
    obtain ⟨hil, hbi, _, hli, htl, _⟩ := hgo'
    have HG := Lib.hid hgo
    have HO := Lib.hid hown
    have HL := Lib.hid hbel
    have HB := Lib.hid (HB0.out.below (Nat.le_refl _) hbel)
    have HBW := Lib.hid (HW.out.1.trans (hbel.mono HW.out.1.size))
    have HS : Hid (Lies wr w.heap.size 29 #[.int .i64 0, .int .i64 0, .int .i64 0]) := by
      unfold Lies; rw [hbel.block _ (by rw [HW.out.2.1]; omega)]; exact HW.out.2.2
    have s0 : wr.cell? ⟨w.heap.size, 0, none⟩ = some (.int .i64 0) := (HS.out.cell 0).trans rfl
    have s1 : wr.cell? ⟨w.heap.size, 1, none⟩ = some (.int .i64 0) := (HS.out.cell 1).trans rfl
    have s2 : wr.cell? ⟨w.heap.size, 2, none⟩ = some (.int .i64 0) := (HS.out.cell 2).trans rfl
    have r0 := HS.out.thawed 0
    have r1 := HS.out.thawed 1
    have r2 := HS.out.thawed 2
    have hws := hbel.size
    clear hgo hown hbel
    by_cases hlt : i < l.length
    · have t1 : decide ((i : Int) < (l.length : Int)) = true := by simp; omega
      have hle := HB0.out.le
      obtain ⟨b, off, rfl, _, hc⟩ := HB.out.at_ (by omega)
      have hx : l[i]? = some l[i] := List.getElem?_eq_getElem hlt
      have ck := hc i _ hx
      have hd : l.drop i = l[i] :: l.drop (i + 1) := List.drop_eq_getElem_cons hlt
      have HC := Lib.hid hc
      clear hc hx
      generalize l[i] = x at ck hd
      generalize hr : l.drop (i + 1) = r at hd
      have KK : Hid (∀ w, Calls Try.prog 36 #[.int .u8 (x.toNat : Int)] w (Says (.int .i64 (kindC x)) w)) := fun w => refKind x w
      obtain ⟨z, hz⟩ : ∃ z : Int, z = (x.toNat : Int) := ⟨_, rfl⟩
      rw [← hz] at ck KK
      have q1 : ¬ (cap = i) := by omega
      obtain ⟨C, hC⟩ : ∃ C, C = i - beg + 1 := ⟨_, rfl⟩
      have HCC : Hid ((i : Int) - (beg : Int) + 1 = (C : Int)) := show _ = _ by omega
      cases h1 : smallC x with
      | true =>
        rw [kind_small h1] at KK
        obtain ⟨p, q, rfl, hp, hq⟩ := cut signC r
        have hln : i + 1 + p.length + q.length = l.length := by
          have := congrArg List.length hr
          simp at this; omega
        have HNX := Lib.hid (HG.out.word hd h1 hp hq)
        rw [← hC] at HNX
        have hT : (l.drop i).take (p.length + 1) = x :: p := by rw [hd]; simp
        have hcv := HB.out.text (i := i) (n := p.length + 1) (by omega) rfl (by omega) (cap - i)
        rw [hT] at hcv
        have HP := Lib.hid hp
        have HQ := Lib.hid hq
        have HR := Lib.hid hr
        clear hd hz h1 hp hq hr hT hC
        go_wp2_with (fail)
        with_reducible refine (KK.out _).mono ?_
        rintro e w' ⟨rfl, rfl⟩
        go_wp2
        go_loopw [10] (fun j W => OnRel i p.length wr j W) (fun j _ => l.length - (intOf j).toNat)
        case atStart => exact ⟨0, by omega, by go_num, rfl⟩
        case round =>
          obtain ⟨n, hn, rfl, rfl⟩ := hrel
          obtain ⟨j, hj⟩ : ∃ j, j = i + 1 + n := ⟨_, rfl⟩
          rw [← hj]
          have hjb : j ≤ 2000001 := by omega
          have HJ := Lib.hid hj
          by_cases hend : j < l.length
          · have t2 : decide ((j : Int) < (l.length : Int)) = true := by simp; omega
            obtain ⟨y, hy⟩ : ∃ y, l[i + 1 + n]? = some y := ⟨_, List.getElem?_eq_getElem (by omega)⟩
            have cy := HC.out _ _ hy
            rw [← hj] at cy
            have hby := byte_on HR.out hy
            clear hy
            have KY : Hid (∀ w, Calls Try.prog 36 #[.int .u8 (y.toNat : Int)] w (Says (.int .i64 (kindC y)) w)) := fun w => refKind y w
            generalize (y.toNat : Int) = zy at cy KY
            by_cases hnp : n < p.length
            · have hyes := HP.out y (hby.1 hnp)
              clear hj
              obtain ⟨k1, k2⟩ := (kind_sign y).2 hyes
              clear hby hyes
              generalize kindC y = K at KY k1 k2
              go_wp2_with (fail)
              with_reducible refine (KY.out _).mono ?_
              rintro e w' ⟨rfl, rfl⟩
              go_wp2_with (fail)
              with_reducible refine (KY.out _).mono ?_
              rintro e w' ⟨rfl, rfl⟩
              go_wp2
              go_roundw
              case rel => exact ⟨n + 1, by omega, (by have := HJ.out; congr 1; omega), rfl⟩
              case measure => simp [intOf]; omega
            · obtain rfl : n = p.length := by omega
              have hno : signC y = false := by
                obtain ⟨r, hr⟩ := hby.2 rfl
                exact HQ.out y r hr
              have hw1 : j - i = p.length + 1 := by omega
              have hw2 : i ≤ j := by omega
              have hw3 : j ≤ cap := by omega
              clear hby hj
              have hk : kindC y < 1 ∨ 3 < kindC y := by
                rcases (show kindC y < 1 ∨ 3 < kindC y ∨ (1 ≤ kindC y ∧ kindC y ≤ 3) by omega) with h | h | h
                · exact .inl h
                · exact .inr h
                · have := (kind_sign y).1 h
                  rw [hno] at this
                  cases this
              clear hno
              generalize kindC y = K at KY hk
              rcases hk with k1 | k1
              · have k2 : ¬ 1 ≤ K := by omega
                go_wp2_with (fail)
                with_reducible refine (KY.out _).mono ?_
                rintro e w' ⟨rfl, rfl⟩
                have HNX1 : Hid (Goes l (ts ++ [⟨1, x :: p, 0, line, C⟩]) j line beg) := by have := HNX.out; rwa [show i + (p.length + 1) = j by have := HJ.out; omega] at this
                go_wp2_with (at_builtin; refine wpList_append_tok rfl _ _ rfl W0.heap.size ts.length 1 (ts.length + 1) wr.heap.size (.slice A ts.length c) ts ⟨1, (x :: p), 0, line, C⟩ (by rfl) (by rfl) (World.ownsRow.alloc HO.out _) (lies_tok wr 1 0 line C (x :: p) HCC.out) rfl (by omega) (by simp; omega) ?_; intro A1 c1 w1 hl1; have H1 := Lib.hid hl1; clear hl1)
                go_wp2
                go_roundw
                case rel => exact RefRel.next HNX1.out HL.out HO.out H1.out rfl rfl rfl
                case measure => simp [intOf]; omega
              · have k2 : 1 ≤ K := by omega
                have k3 : ¬ K ≤ 3 := by omega
                go_wp2_with (fail)
                with_reducible refine (KY.out _).mono ?_
                rintro e w' ⟨rfl, rfl⟩
                go_wp2_with (fail)
                with_reducible refine (KY.out _).mono ?_
                rintro e w' ⟨rfl, rfl⟩
                have HNX1 : Hid (Goes l (ts ++ [⟨1, x :: p, 0, line, C⟩]) j line beg) := by have := HNX.out; rwa [show i + (p.length + 1) = j by have := HJ.out; omega] at this
                go_wp2_with (at_builtin; refine wpList_append_tok rfl _ _ rfl W0.heap.size ts.length 1 (ts.length + 1) wr.heap.size (.slice A ts.length c) ts ⟨1, (x :: p), 0, line, C⟩ (by rfl) (by rfl) (World.ownsRow.alloc HO.out _) (lies_tok wr 1 0 line C (x :: p) HCC.out) rfl (by omega) (by simp; omega) ?_; intro A1 c1 w1 hl1; have H1 := Lib.hid hl1; clear hl1)
                go_wp2
                go_roundw
                case rel => exact RefRel.next HNX1.out HL.out HO.out H1.out rfl rfl rfl
                case measure => simp [intOf]; omega
          · have t2 : decide ((j : Int) < (l.length : Int)) = false := by simp; omega
            have t2' : decide (j < l.length) = false := by simp; omega
            obtain rfl : n = p.length := by omega
            have hw1 : j - i = p.length + 1 := by omega
            have hw2 : i ≤ j := by omega
            have hw3 : j ≤ cap := by omega
            clear hj
            have HNX1 : Hid (Goes l (ts ++ [⟨1, x :: p, 0, line, C⟩]) j line beg) := by have := HNX.out; rwa [show i + (p.length + 1) = j by have := HJ.out; omega] at this
            go_wp2_with (at_builtin; refine wpList_append_tok rfl _ _ rfl W0.heap.size ts.length 1 (ts.length + 1) wr.heap.size (.slice A ts.length c) ts ⟨1, (x :: p), 0, line, C⟩ (by rfl) (by rfl) (World.ownsRow.alloc HO.out _) (lies_tok wr 1 0 line C (x :: p) HCC.out) rfl (by omega) (by simp; omega) ?_; intro A1 c1 w1 hl1; have H1 := Lib.hid hl1; clear hl1)
            go_wp2
            go_roundw
            case rel => exact RefRel.next HNX1.out HL.out HO.out H1.out rfl rfl rfl
            case measure => simp [intOf]; omega
      | false =>
        cases h2 : digitC x with
        | true =>
          rw [kind_digit h2] at KK
          obtain ⟨p, q, rfl, hp, hq⟩ := cut digitC r
          have hln : i + 1 + p.length + q.length = l.length := by
            have := congrArg List.length hr
            simp at this; omega
          have HNX : Hid (vals 0 (x :: p) ≤ most → Goes l (ts ++ [⟨2, x :: p, vals 0 (x :: p), line, C⟩]) (i + (p.length + 1)) line beg) := fun hv => by rw [hC]; exact HG.out.num hd h2 hp hq hv
          have HOV : Hid (¬ vals 0 (x :: p) ≤ most → ans l = [] ∧ (lex l).2 = (2, line, C)) := fun hv => by rw [hC]; exact HG.out.over hd h2 hp hq hv
          have KVV : Hid (∀ w, Calls Try.prog 37 #[.string ⟨(x :: p).toArray⟩] w (Says (valueV (x :: p)) w)) := fun w => refValue (x :: p) w (by simp; omega) (fun y hy => by
            rcases List.mem_cons.1 hy with rfl | hy
            · exact h2
            · exact hp y hy)
          have hT : (l.drop i).take (p.length + 1) = x :: p := by rw [hd]; simp
          have hcv := HB.out.text (i := i) (n := p.length + 1) (by omega) rfl (by omega) (cap - i)
          rw [hT] at hcv
          have HP := Lib.hid hp
          have HQ := Lib.hid hq
          have HR := Lib.hid hr
          clear hd hz h1 h2 hp hq hr hT hC
          go_wp2_with (fail)
          with_reducible refine (KK.out _).mono ?_
          rintro e w' ⟨rfl, rfl⟩
          go_wp2
          go_loopw [10] (fun j W => OnRel i p.length wr j W) (fun j _ => l.length - (intOf j).toNat)
          case atStart => exact ⟨0, by omega, by go_num, rfl⟩
          case round =>
            obtain ⟨n, hn, rfl, rfl⟩ := hrel
            obtain ⟨j, hj⟩ : ∃ j, j = i + 1 + n := ⟨_, rfl⟩
            rw [← hj]
            have hjb : j ≤ 2000001 := by omega
            have HJ := Lib.hid hj
            by_cases hend : j < l.length
            · have t2 : decide ((j : Int) < (l.length : Int)) = true := by simp; omega
              obtain ⟨y, hy⟩ : ∃ y, l[i + 1 + n]? = some y := ⟨_, List.getElem?_eq_getElem (by omega)⟩
              have cy := HC.out _ _ hy
              rw [← hj] at cy
              have hby := byte_on HR.out hy
              clear hy
              have KY : Hid (∀ w, Calls Try.prog 36 #[.int .u8 (y.toNat : Int)] w (Says (.int .i64 (kindC y)) w)) := fun w => refKind y w
              generalize (y.toNat : Int) = zy at cy KY
              by_cases hnp : n < p.length
              · have hyes := HP.out y (hby.1 hnp)
                clear hj
                have k1 := kind_digit hyes
                rw [k1] at KY
                clear hby hyes k1
                go_wp2_with (fail)
                with_reducible refine (KY.out _).mono ?_
                rintro e w' ⟨rfl, rfl⟩
                go_wp2
                go_roundw
                case rel => exact ⟨n + 1, by omega, (by have := HJ.out; congr 1; omega), rfl⟩
                case measure => simp [intOf]; omega
              · obtain rfl : n = p.length := by omega
                have hno : digitC y = false := by
                  obtain ⟨r, hr⟩ := hby.2 rfl
                  exact HQ.out y r hr
                have hw1 : j - i = p.length + 1 := by omega
                have hw2 : i ≤ j := by omega
                have hw3 : j ≤ cap := by omega
                clear hby hj
                have k1 : (kindC y == 2) = false := by
                  cases hk : kindC y == 2 with
                  | false => rfl
                  | true =>
                    have := (kind_digit_iff y).1 (eq_of_beq hk)
                    rw [hno] at this
                    cases this
                clear hno
                generalize kindC y = K at KY k1
                go_wp2_with (fail)
                with_reducible refine (KY.out _).mono ?_
                rintro e w' ⟨rfl, rfl⟩
                by_cases hv : vals 0 (x :: p) ≤ most
                · have HNX1 : Hid (Goes l (ts ++ [⟨2, x :: p, vals 0 (x :: p), line, C⟩]) j line beg) := by have := HNX.out hv; rwa [show i + (p.length + 1) = j by have := HJ.out; omega] at this
                  have KV : Hid (∀ w, Calls Try.prog 37 #[.string ⟨(x :: p).toArray⟩] w (Says (.tuple #[.int .i64 (vals 0 (x :: p) : Nat), .bool true]) w)) := fun w => by
                    have := KVV.out w
                    unfold valueV at this
                    rwa [if_pos hv] at this
                  generalize vals 0 (x :: p) = V at HNX1 KV
                  clear hv
                  go_wp2_with (fail)
                  with_reducible refine (KV.out _).mono ?_
                  rintro e w' ⟨rfl, rfl⟩
                  go_wp2_with (at_builtin; refine wpList_append_tok rfl _ _ rfl W0.heap.size ts.length 1 (ts.length + 1) wr.heap.size (.slice A ts.length c) ts ⟨2, (x :: p), V, line, C⟩ (by rfl) (by rfl) (World.ownsRow.alloc HO.out _) (lies_tok wr 2 V line C (x :: p) HCC.out) rfl (by omega) (by simp; omega) ?_; intro A1 c1 w1 hl1; have H1 := Lib.hid hl1; clear hl1)
                  go_wp2
                  go_roundw
                  case rel => exact RefRel.next HNX1.out HL.out HO.out H1.out rfl rfl rfl
                  case measure => simp [intOf]; omega
                · have HOV1 := Lib.hid (HOV.out hv)
                  have KV : Hid (∀ w, Calls Try.prog 37 #[.string ⟨(x :: p).toArray⟩] w (Says (.tuple #[.int .i64 0, .bool false]) w)) := fun w => by
                    have := KVV.out w
                    unfold valueV at this
                    rwa [if_neg hv] at this
                  have HBL := Lib.hid (below_spot HBW.out (Nat.le_refl _) (.int .i64 2) (.int .i64 (line : Int)) (.int .i64 ((i : Int) - (beg : Int) + 1)))
                  have HLS := Lib.hid (lies_spot HS.out (.int .i64 2) (.int .i64 (line : Int)) (.int .i64 ((i : Int) - (beg : Int) + 1)))
                  clear hv
                  go_wp2_with (fail)
                  with_reducible refine (KV.out _).mono ?_
                  rintro e w' ⟨rfl, rfl⟩
                  go_wp2
                  (try simp only [Exit.inBlock, Exit.then])
                  refine bodyPost_ret (results_spot rfl _ _ w.heap.size _ rfl HLS.out rfl) rfl ?_
                  have := lexed_bad HOV1.out.1 HOV1.out.2 HBL.out
                  rw [← HCC.out] at this
                  exact this
            · have t2 : decide ((j : Int) < (l.length : Int)) = false := by simp; omega
              have t2' : decide (j < l.length) = false := by simp; omega
              obtain rfl : n = p.length := by omega
              have hw1 : j - i = p.length + 1 := by omega
              have hw2 : i ≤ j := by omega
              have hw3 : j ≤ cap := by omega
              clear hj
              by_cases hv : vals 0 (x :: p) ≤ most
              · have HNX1 : Hid (Goes l (ts ++ [⟨2, x :: p, vals 0 (x :: p), line, C⟩]) j line beg) := by have := HNX.out hv; rwa [show i + (p.length + 1) = j by have := HJ.out; omega] at this
                have KV : Hid (∀ w, Calls Try.prog 37 #[.string ⟨(x :: p).toArray⟩] w (Says (.tuple #[.int .i64 (vals 0 (x :: p) : Nat), .bool true]) w)) := fun w => by
                  have := KVV.out w
                  unfold valueV at this
                  rwa [if_pos hv] at this
                generalize vals 0 (x :: p) = V at HNX1 KV
                clear hv
                go_wp2_with (fail)
                with_reducible refine (KV.out _).mono ?_
                rintro e w' ⟨rfl, rfl⟩
                go_wp2_with (at_builtin; refine wpList_append_tok rfl _ _ rfl W0.heap.size ts.length 1 (ts.length + 1) wr.heap.size (.slice A ts.length c) ts ⟨2, (x :: p), V, line, C⟩ (by rfl) (by rfl) (World.ownsRow.alloc HO.out _) (lies_tok wr 2 V line C (x :: p) HCC.out) rfl (by omega) (by simp; omega) ?_; intro A1 c1 w1 hl1; have H1 := Lib.hid hl1; clear hl1)
                go_wp2
                go_roundw
                case rel => exact RefRel.next HNX1.out HL.out HO.out H1.out rfl rfl rfl
                case measure => simp [intOf]; omega
              · have HOV1 := Lib.hid (HOV.out hv)
                have KV : Hid (∀ w, Calls Try.prog 37 #[.string ⟨(x :: p).toArray⟩] w (Says (.tuple #[.int .i64 0, .bool false]) w)) := fun w => by
                  have := KVV.out w
                  unfold valueV at this
                  rwa [if_neg hv] at this
                have HBL := Lib.hid (below_spot HBW.out (Nat.le_refl _) (.int .i64 2) (.int .i64 (line : Int)) (.int .i64 ((i : Int) - (beg : Int) + 1)))
                have HLS := Lib.hid (lies_spot HS.out (.int .i64 2) (.int .i64 (line : Int)) (.int .i64 ((i : Int) - (beg : Int) + 1)))
                clear hv
                go_wp2_with (fail)
                with_reducible refine (KV.out _).mono ?_
                rintro e w' ⟨rfl, rfl⟩
                go_wp2
                (try simp only [Exit.inBlock, Exit.then])
                refine bodyPost_ret (results_spot rfl _ _ w.heap.size _ rfl HLS.out rfl) rfl ?_
                have := lexed_bad HOV1.out.1 HOV1.out.2 HBL.out
                rw [← HCC.out] at this
                exact this
        | false =>
          cases h3 : blankC x with
          | true =>
            rw [kind_blank h3] at KK
            have HNX := Lib.hid (HG.out.blank hd h3)
            clear hd hz h1 h2 h3 hr hC
            go_wp2_with (fail)
            with_reducible refine (KK.out _).mono ?_
            rintro e w' ⟨rfl, rfl⟩
            go_wp2
            go_roundw
            case rel => exact ⟨ts, i + 1, line, beg, A, c, HNX.out, rfl, rfl, rfl, by go_num, HO.out, HL.out⟩
            case measure => simp [intOf]; omega
          | false =>
            by_cases h5 : x.toNat = 10
            · rw [kind_line h5] at KK
              have HNX := Lib.hid (HG.out.nextLine hd h5)
              rw [← hC] at HNX
              clear hd hz h1 h2 h3 h5 hr hC
              go_wp2_with (fail)
              with_reducible refine (KK.out _).mono ?_
              rintro e w' ⟨rfl, rfl⟩
              go_wp2_with (at_builtin; refine wpList_append_tok rfl _ _ rfl W0.heap.size ts.length 1 (ts.length + 1) wr.heap.size (.slice A ts.length c) ts ⟨3, [], 0, line, C⟩ (by rfl) (by rfl) (World.ownsRow.alloc HO.out _) (lies_tok wr 3 0 line C [] HCC.out) rfl (by omega) (by simp; omega) ?_; intro A1 c1 w1 hl1; have H1 := Lib.hid hl1; clear hl1)
              go_wp2
              go_roundw
              case rel => exact RefRel.next HNX.out HL.out HO.out H1.out (by go_num) (by go_num) (by go_num)
              case measure => simp [intOf]; omega
            · by_cases h4 : x.toNat = 35
              · rw [kind_mark h4] at KK
                obtain ⟨p, q, rfl, hp, hq⟩ := cut lineC r
                have hln : i + 1 + p.length + q.length = l.length := by
                  have := congrArg List.length hr
                  simp at this; omega
                have HNX := Lib.hid (HG.out.remark hd h4 hp hq)
                have HP := Lib.hid hp
                have HQ := Lib.hid hq
                have HR := Lib.hid hr
                clear hd hz h1 h2 h3 h4 h5 hp hq hr hC
                go_wp2_with (fail)
                with_reducible refine (KK.out _).mono ?_
                rintro e w' ⟨rfl, rfl⟩
                go_wp2
                go_loopw [10] (fun j W => OnRel i p.length wr j W) (fun j _ => l.length - (intOf j).toNat)
                case atStart => exact ⟨0, by omega, by go_num, rfl⟩
                case round =>
                  obtain ⟨n, hn, rfl, rfl⟩ := hrel
                  obtain ⟨j, hj⟩ : ∃ j, j = i + 1 + n := ⟨_, rfl⟩
                  rw [← hj]
                  have hjb : j ≤ 2000001 := by omega
                  have HJ := Lib.hid hj
                  by_cases hend : j < l.length
                  · have t2 : decide ((j : Int) < (l.length : Int)) = true := by simp; omega
                    obtain ⟨y, hy⟩ : ∃ y, l[i + 1 + n]? = some y := ⟨_, List.getElem?_eq_getElem (by omega)⟩
                    have cy := HC.out _ _ hy
                    rw [← hj] at cy
                    have hby := byte_on HR.out hy
                    clear hy
                    have KY : Hid (∀ w, Calls Try.prog 36 #[.int .u8 (y.toNat : Int)] w (Says (.int .i64 (kindC y)) w)) := fun w => refKind y w
                    generalize (y.toNat : Int) = zy at cy KY
                    by_cases hnp : n < p.length
                    · have hyes := HP.out y (hby.1 hnp)
                      clear hj
                      have k1 : (kindC y != 5) = true := by
                        have := (kind_line_iff y).2 hyes
                        simp [this]
                      clear hby hyes
                      generalize kindC y = K at KY k1
                      go_wp2_with (fail)
                      with_reducible refine (KY.out _).mono ?_
                      rintro e w' ⟨rfl, rfl⟩
                      go_wp2
                      go_roundw
                      case rel => exact ⟨n + 1, by omega, (by have := HJ.out; congr 1; omega), rfl⟩
                      case measure => simp [intOf]; omega
                    · obtain rfl : n = p.length := by omega
                      have hno : lineC y = false := by
                        obtain ⟨r, hr⟩ := hby.2 rfl
                        exact HQ.out y r hr
                      have hw1 : j - i = p.length + 1 := by omega
                      have hw2 : i ≤ j := by omega
                      have hw3 : j ≤ cap := by omega
                      clear hby hj
                      have k1 : kindC y = 5 := by
                        rcases Decidable.em (kindC y = 5) with h | h
                        · exact h
                        · have := (kind_line_iff y).1 h
                          rw [hno] at this
                          cases this
                      rw [k1] at KY
                      clear hno k1
                      go_wp2_with (fail)
                      with_reducible refine (KY.out _).mono ?_
                      rintro e w' ⟨rfl, rfl⟩
                      have HNX1 : Hid (Goes l ts j line beg) := by have := HNX.out; rwa [show i + (p.length + 1) = j by have := HJ.out; omega] at this
                      go_wp2
                      go_roundw
                      case rel => exact ⟨ts, j, line, beg, A, c, HNX1.out, rfl, rfl, rfl, rfl, HO.out, HL.out⟩
                      case measure => simp [intOf]; omega
                  · have t2 : decide ((j : Int) < (l.length : Int)) = false := by simp; omega
                    have t2' : decide (j < l.length) = false := by simp; omega
                    obtain rfl : n = p.length := by omega
                    have hw1 : j - i = p.length + 1 := by omega
                    have hw2 : i ≤ j := by omega
                    have hw3 : j ≤ cap := by omega
                    clear hj
                    have HNX1 : Hid (Goes l ts j line beg) := by have := HNX.out; rwa [show i + (p.length + 1) = j by have := HJ.out; omega] at this
                    go_wp2
                    go_roundw
                    case rel => exact ⟨ts, j, line, beg, A, c, HNX1.out, rfl, rfl, rfl, rfl, HO.out, HL.out⟩
                    case measure => simp [intOf]; omega
              · have HBD := Lib.hid (HG.out.bad hd h1 h2 h3 h4 h5)
                rw [← hC] at HBD
                have hk := kind_bad h1 h2 h3 h4 h5
                clear hd hz h1 h2 h3 h4 h5 hr hC
                generalize kindC x = K at KK hk
                rcases hk with rfl | rfl
                · have HBL := Lib.hid (below_spot HBW.out (Nat.le_refl _) (.int .i64 5) (.int .i64 (line : Int)) (.int .i64 ((i : Int) - (beg : Int) + 1)))
                  have HLS := Lib.hid (lies_spot HS.out (.int .i64 5) (.int .i64 (line : Int)) (.int .i64 ((i : Int) - (beg : Int) + 1)))
                  go_wp2_with (fail)
                  with_reducible refine (KK.out _).mono ?_
                  rintro e w' ⟨rfl, rfl⟩
                  go_wp2
                  (try simp only [Exit.inBlock, Exit.then])
                  refine bodyPost_ret (results_spot rfl _ _ w.heap.size _ rfl HLS.out rfl) rfl ?_
                  have := lexed_bad HBD.out.1 HBD.out.2 HBL.out
                  rw [← HCC.out] at this
                  exact this
                · have HBL := Lib.hid (below_spot HBW.out (Nat.le_refl _) (.int .i64 5) (.int .i64 (line : Int)) (.int .i64 ((i : Int) - (beg : Int) + 1)))
                  have HLS := Lib.hid (lies_spot HS.out (.int .i64 5) (.int .i64 (line : Int)) (.int .i64 ((i : Int) - (beg : Int) + 1)))
                  go_wp2_with (fail)
                  with_reducible refine (KK.out _).mono ?_
                  rintro e w' ⟨rfl, rfl⟩
                  go_wp2
                  (try simp only [Exit.inBlock, Exit.then])
                  refine bodyPost_ret (results_spot rfl _ _ w.heap.size _ rfl HLS.out rfl) rfl ?_
                  have := lexed_bad HBD.out.1 HBD.out.2 HBL.out
                  rw [← HCC.out] at this
                  exact this
    · have t1 : decide ((i : Int) < (l.length : Int)) = false := by simp; omega
      have t1' : decide (i < l.length) = false := by simp; omega
      obtain rfl : i = l.length := by omega
      have HD := Lib.hid (HG.out.done (Nat.le_refl _))
      obtain ⟨C, hC⟩ : ∃ C, C = l.length - beg + 1 := ⟨_, rfl⟩
      have HCC : Hid ((l.length : Int) - (beg : Int) + 1 = (C : Int)) := show _ = _ by omega
      rw [← hC] at HD
      clear hC
      go_wp2_with (at_builtin; refine wpList_append_tok rfl _ _ rfl W0.heap.size ts.length 1 (ts.length + 1) wr.heap.size (.slice A ts.length c) ts ⟨4, [], 0, line, C⟩ (by rfl) (by rfl) (World.ownsRow.alloc HO.out _) (lies_tok wr 4 0 line C [] HCC.out) rfl (by omega) (by simp; omega) ?_; intro A1 c1 w1 hl1; have H1 := Lib.hid hl1; have HB1 := Lib.hid (Below.grown (HL.out.alloc HL.out.size _) hl1.2.1 (by simp; omega) (fun k hk => (own_lt HO.out hk).1)); have HS1 : Hid (Lies w1 w.heap.size 29 #[.int .i64 0, .int .i64 0, .int .i64 0]) := (by unfold Lies; rw [HB1.out.block _ (by rw [HW.out.2.1]; omega)]; exact HW.out.2.2); have y0 : w1.cell? ⟨w.heap.size, 0, none⟩ = some (.int .i64 0) := (HS1.out.cell 0).trans rfl; have y1 : w1.cell? ⟨w.heap.size, 1, none⟩ = some (.int .i64 0) := (HS1.out.cell 1).trans rfl; have y2 : w1.cell? ⟨w.heap.size, 2, none⟩ = some (.int .i64 0) := (HS1.out.cell 2).trans rfl; have z0 := HS1.out.thawed 0; have z1 := HS1.out.thawed 1; have z2 := HS1.out.thawed 2; clear hl1)
      have HBL := Lib.hid (below_spot (HW.out.1.trans (HB1.out.mono HW.out.1.size)) (Nat.le_refl _) (.int .i64 0) (.int .i64 0) (.int .i64 0))
      have HLS := Lib.hid (lies_spot HS1.out (.int .i64 0) (.int .i64 0) (.int .i64 0))
      obtain ⟨A', c', e', _, hnc, htk, hbk⟩ := Toks.own H1.out.1
      cases e'
      have HTK := Lib.hid htk
      have HBK : Hid (∀ x, A1 = some x → w.heap.size + 1 ≤ x.block) := fun x hx => by have := hbk x hx; rwa [HW.out.2.1] at this
      clear htk hbk
      go_wp2
      (try simp only [Exit.inBlock, Exit.then])
      refine bodyPost_ret (results_spot rfl _ _ w.heap.size _ rfl HLS.out rfl) rfl ?_
      have := lexed_good HD.out.1 HD.out.2 (by simpa using hnc) (HTK.out.spot HBK.out) (fun x hx => by have := HBK.out x hx; omega) HBL.out
      simpa using this
end Go.Proofs.Yteolepmopajamaa.Lx
