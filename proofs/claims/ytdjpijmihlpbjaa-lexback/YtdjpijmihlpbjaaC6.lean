/- The walk of the statement on tokens' places, and their texts put together again. -/
import Derived.Test.YtdjpijmihlpbjaaC4
import Derived.Test.YtdjpijmihlpbjaaSr
namespace Go.Proofs.Ytdjpijmihlpbjaa
open Go.RowKit

def BackRel (l : List UInt8) (ts : List Tok) (V : World) (o vl vb va vi : Value) (W : World) : Prop :=
  ∃ (k m c : Nat) (A : Option Addr), k ≤ ts.length ∧ m ≤ l.length ∧ o = .slice A (again (ts.take k)).length c ∧ vl = .int .i64 ((1 + nl (l.take m) : Nat) : Int) ∧ vb = .int .i64 ((begF 0 0 (l.take m) : Nat) : Int) ∧ va = .int .i64 (m : Int) ∧ vi = .int .i64 (k : Int) ∧
    (∀ t, ts[k]? = some t → 1 + nl (l.take m) ≤ t.line) ∧ JoinRel V (again (ts.take k)).length (again (ts.take k)) A c W
def WhereRel (l : List UInt8) (L : Nat) (V : World) (vl vb va : Value) (W : World) : Prop :=
  ∃ m : Nat, m ≤ l.length ∧ vl = .int .i64 ((1 + nl (l.take m) : Nat) : Int) ∧ vb = .int .i64 ((begF 0 0 (l.take m) : Nat) : Int) ∧ va = .int .i64 (m : Int) ∧ 1 + nl (l.take m) ≤ L ∧ W = V
theorem nl_le (l : List UInt8) : nl l ≤ l.length := by
  induction l with
  | nil => exact Nat.le_refl _
  | cons c l ih => rw [nl, List.length_cons]; split <;> omega
theorem begF_le (l : List UInt8) (m : Nat) : begF 0 0 (l.take m) ≤ m := by
  have := (colF_begF (l.take m) 0 0 (Nat.le_refl _)).1
  simp at this; omega

set_option maxRecDepth 100000 in
set_option maxHeartbeats 16000000 in
theorem coreBack (l : List UInt8) (a : Option Addr) (cap : Nat) {w : World} (hm : l.length ≤ maxLen) (ha : Bytes w a cap l) : Calls Try.prog 4 #[.slice a l.length cap] w (Woke w) := by
  unfold maxLen at hm
  have HA := Lib.hid ha
  clear ha
  by_cases h5 : 5000 < l.length
  · have t1 : decide ((5000 : Int) < (l.length : Int)) = true := by simp; omega
    go_enter Try.func4, Try.ntmps4
    go_wp2_with (fail)
    refine (awake _).mono ?_
    rintro e w1 ⟨rfl, hb1⟩
    have H1 := Lib.hid hb1
    clear hb1
    go_wp2_with (fail)
    refine (awake _).mono ?_
    rintro e w2 ⟨rfl, hb2⟩
    have H2 := Lib.hid (H1.out.trans (hb2.mono H1.out.size))
    clear hb2
    go_wp2
    go_ret
    exact ⟨rfl, H2.out⟩
  · have t1 : decide ((5000 : Int) < (l.length : Int)) = false := by simp; omega
    have hlen := ans_len l
    obtain ⟨e0, n1, n2, hs⟩ : ∃ e n1 n2, (lex l).2 = (e, n1, n2) := ⟨_, _, _, rfl⟩
    have HE := Lib.hid hs
    clear hs
    go_enter Try.func4, Try.ntmps4
    go_wp2_with (fail)
    refine (awake _).mono ?_
    rintro e w1 ⟨rfl, hb1⟩
    have H1 := Lib.hid hb1
    clear hb1
    have K1 := Lib.hid (tokens l a cap (by omega) (HA.out.below (Nat.le_refl _) H1.out))
    go_wp2_with (fail)
    with_reducible refine K1.out.mono ?_
    rintro e w2 ⟨X, cx, rfl, hncx, htx, _, hb2⟩
    rw [HE.out]
    simp only [spotV]
    by_cases he0 : e0 = 0
    · have z0 : ((e0 : Int) != 0) = false := by simp [he0]
      obtain ⟨ts, hts⟩ : ∃ ts, ts = ans l := ⟨_, rfl⟩
      have hE1 : (lexA l 1 1).2.1 = 0 := by have := congrArg Prod.fst HE.out; rw [he0] at this; exact this
      have hts' : ts = (lexA l 1 1).1 := by
        rw [hts]; unfold ans; rw [if_pos]
        · rfl
        · exact hE1
      have HF : Hid (Form 1 ts) := by rw [hts']; exact form l 1 1 hE1
      have HPL : Hid (∀ t ∈ ts, Placed l 1 1 t) := by rw [hts']; exact placed l 1 1 hE1
      have hag : (again ts).length ≤ 2 * l.length := by rw [hts']; exact again_len l 1 1 hE1
      rw [← hts] at hncx htx hlen ⊢
      obtain ⟨V2, hV2⟩ : ∃ V, V = w2.alloc (.cells #[.int .i64 (e0 : Int), .int .i64 (n1 : Int), .int .i64 (n2 : Int)] 27) := ⟨_, rfl⟩
      have HB2 : Hid (Below w.heap.size w V2) := by rw [hV2]; exact (H1.out.trans (hb2.mono H1.out.size)).alloc (Nat.le_trans H1.out.size hb2.size) _
      have HT2 : Hid (Toks V2 X ts) := by rw [hV2]; exact htx.below (Nat.le_refl _) ((Below.refl _ _).alloc (Nat.le_refl _) _)
      have HAV := Lib.hid (HA.out.below (Nat.le_refl _) HB2.out)
      clear htx hb2 hts hts' hE1 he0
      go_wp2
      rw [← hV2]
      clear hV2
      go_loopw [5, 6, 7, 8, 9] (fun o vl vb va vi W => BackRel l ts V2 o vl vb va vi W) (fun _ _ _ _ vi _ => ts.length - (intOf vi).toNat)
      case atStart =>
        refine ⟨0, 0, 0, none, by omega, by omega, rfl, rfl, rfl, rfl, rfl, fun t ht => ?_, World.ownsRow_nil _ _ _ _, Below.refl _ _⟩
        obtain ⟨_, _, _, h1, _, _⟩ := stands (HPL.out t (List.mem_of_getElem? ht))
        rw [List.take_zero]; exact h1
      case round =>
        obtain ⟨k, m, c, A, hk, hml, rfl, rfl, rfl, rfl, rfl, hline, hjr⟩ := hrel
        have HJR := Lib.hid hjr
        have HLN := Lib.hid hline
        have HAW := Lib.hid (HAV.out.below (Nat.le_refl _) hjr.2)
        have HTW := Lib.hid (HT2.out.below (Nat.le_refl _) hjr.2)
        clear hjr hline
        by_cases hlt : k < ts.length
        · have t2 : decide ((k : Int) < (ts.length : Int)) = true := by simp; omega
          obtain ⟨t, ht⟩ : ∃ t, ts[k]? = some t := ⟨_, List.getElem?_eq_getElem hlt⟩
          obtain ⟨bx, ox, rfl, _, hcx⟩ := HTW.out (by omega)
          obtain ⟨p0, p1, p2, p3, p4⟩ := Toks.cells hcx ht
          obtain ⟨P, hP1, hP2, hP3, hP4, hP5⟩ := stands (HPL.out t (List.mem_of_getElem? ht))
          have hl1 := HLN.out t ht
          have HAG := Lib.hid (again_take ts k ht)
          have hagk := again_le ts (k + 1)
          have HNT : Hid (∀ u, ts[k + 1]? = some u → t.line ≤ u.line) := fun u hu => HF.out.rise ht hu
          have hkd := HF.out.kinds t (List.mem_of_getElem? ht)
          have HP5 := Lib.hid hP5
          clear hcx hP5
          obtain ⟨S, hS⟩ : ∃ S : ByteArray, S = ⟨t.text.toArray⟩ := ⟨_, rfl⟩
          have HSz : Hid (S.size = t.text.length) := by rw [hS]; rfl
          have HSd := Lib.hid (show S.data.toList = t.text by rw [hS])
          rw [← hS] at p1
          have HS := Lib.hid hS
          clear hS
          obtain ⟨Q, hQ⟩ : ∃ Q, Q = again (ts.take k) := ⟨_, rfl⟩
          have hcol : t.col ≤ 20000 := by
            obtain ⟨pre, post, e, _, h2⟩ := HPL.out t (List.mem_of_getElem? ht)
            have h3 := (colF_begF pre 0 0 (Nat.le_refl _)).2
            have h4 : pre.length ≤ l.length := by rw [e]; simp
            rw [show (0 : Nat) - 0 + 1 = 1 by omega] at h3
            omega
          have hlb : t.line ≤ 20000 := by have := nl_le l; omega
          rw [← hQ] at HJR HAG ⊢
          have hQl : Q.length ≤ 20000 := by have := again_le ts k; rw [← hQ] at this; omega
          go_wp2
          obtain ⟨W1, hW1⟩ : ∃ W1, W1 = wr.alloc (.cells #[.int .i64 (t.kind : Nat), .string S, .int .i64 (t.value : Nat), .int .i64 (t.line : Nat), .int .i64 (t.col : Nat)] 33) := ⟨_, rfl⟩
          have HL1 : Hid (Lies W1 wr.heap.size 33 #[.int .i64 (t.kind : Nat), .string S, .int .i64 (t.value : Nat), .int .i64 (t.line : Nat), .int .i64 (t.col : Nat)]) := by rw [hW1]; exact Lies.made _ _ _
          have HJ1 : Hid (JoinRel V2 Q.length Q A c W1) := by rw [hW1]; exact HJR.out.alloc _
          have HA1 : Hid (Bytes W1 a cap l) := by rw [hW1]; exact HAW.out.below (Nat.le_refl _) ((Below.refl _ _).alloc (Nat.le_refl _) _)
          rw [← hW1]
          clear hW1 p0 p1 p2 p3 p4 HJR HAW HTW hQ
          obtain ⟨h0, hh0⟩ : ∃ h0, h0 = wr.heap.size := ⟨_, rfl⟩
          rw [← hh0] at HL1 ⊢
          clear hh0
          go_loopw [6, 7, 8] (fun vl vb va W => WhereRel l t.line W1 vl vb va W) (fun _ _ va _ => l.length - (intOf va).toNat)
          case atStart => exact ⟨m, hml, rfl, rfl, rfl, hl1, rfl⟩
          case round =>
            obtain ⟨m', hm', rfl, rfl, rfl, hle, rfl⟩ := hrel
            obtain ⟨N', hN'⟩ : ∃ N', N' = 1 + nl (l.take m') := ⟨_, rfl⟩
            obtain ⟨B', hB'⟩ : ∃ B', B' = begF 0 0 (l.take m') := ⟨_, rfl⟩
            have hbl := begF_le l m'
            rw [← hN'] at hle ⊢
            rw [← hB'] at hbl ⊢
            have d3 : wr.cell? ⟨h0, 3, none⟩ = some (.int .i64 (t.line : Nat)) := (HL1.out.cell 3).trans rfl
            by_cases hcond : N' < t.line
            · have hmlt : m' < l.length := by
                rcases Nat.lt_or_ge m' l.length with h | h
                · exact h
                · rw [List.take_of_length_le h] at hN'; omega
              have t3 : decide ((N' : Int) < (t.line : Int)) = true := by simp; omega
              have t4 : decide ((m' : Int) < (l.length : Int)) = true := by simp; omega
              obtain ⟨b, off, rfl, _, hc⟩ := HA1.out.at_ (by have := HA1.out.le; omega)
              obtain ⟨x, hx⟩ : ∃ x, l[m']? = some x := ⟨_, List.getElem?_eq_getElem hmlt⟩
              have ck := hc m' x hx
              have HN2 := Lib.hid (nl_next hx)
              have HB2' := Lib.hid (begF_next hx)
              have HN' := Lib.hid hN'
              have HB' := Lib.hid hB'
              clear hc hx hN' hB'
              by_cases hx10 : x.toNat = 10
              · have ck' : wr.cell? ⟨b, off + m', none⟩ = some (.int .u8 10) := by rw [hx10] at ck; exact ck
                rw [if_pos hx10] at HN2 HB2'
                clear ck hx10
                go_wp2
                go_roundw
                case rel => exact ⟨m' + 1, by omega, (by rw [HN2.out]; have := HN'.out; congr 1; omega), (by rw [HB2'.out]; go_num), by go_num, (by rw [HN2.out]; have := HN'.out; omega), rfl⟩
                case measure => simp [intOf]; omega
              · obtain ⟨z, hz⟩ : ∃ z : Int, z = (x.toNat : Int) := ⟨_, rfl⟩
                rw [← hz] at ck
                have t5 : (z == 10) = false := by simp; omega
                rw [if_neg hx10] at HN2 HB2'
                clear hx10 hz
                go_wp2
                go_roundw
                case rel => exact ⟨m' + 1, by omega, (by rw [HN2.out]; have := HN'.out; congr 1; omega), (by rw [HB2'.out, ← HB'.out]), by go_num, (by rw [HN2.out]; have := HN'.out; omega), rfl⟩
                case measure => simp [intOf]; omega
            · obtain rfl : N' = t.line := by omega
              have t3 : decide ((t.line : Int) < (t.line : Int)) = false := by simp
              have hPB := HP5.out m' hN'.symm
              rw [← hB'] at hPB
              have hfrom : (B' : Int) + (t.col : Int) - 1 = (P : Int) := by omega
              have HN' : Hid (1 + nl (l.take m') = t.line) := hN'.symm
              have HB' := Lib.hid hB'.symm
              clear hN' hB'
              have d0 : wr.cell? ⟨h0, 0, none⟩ = some (.int .i64 (t.kind : Nat)) := (HL1.out.cell 0).trans rfl
              have d1 : wr.cell? ⟨h0, 1, none⟩ = some (.string S) := (HL1.out.cell 1).trans rfl
              have d2 : wr.cell? ⟨h0, 2, none⟩ = some (.int .i64 (t.value : Nat)) := (HL1.out.cell 2).trans rfl
              have d4 : wr.cell? ⟨h0, 4, none⟩ = some (.int .i64 (t.col : Nat)) := (HL1.out.cell 4).trans rfl
              have hle2 := HA1.out.le
              by_cases hPc : P = cap
              · subst hPc
                have hT0 : t.text.length = 0 := by omega
                have hS0 : S.size = 0 := by rw [HSz.out]; exact hT0
                have HSE : Hid ((⟨#[]⟩ : ByteArray) = S) := by
                  have hnil : t.text = [] := List.eq_nil_of_length_eq_zero hT0
                  rw [HS.out, hnil]; exact rfl
                have hcv : ∀ n c', (convert 22 9 (.slice a 0 c')).run Try.prog (wr.drewN n) = .ok (.string S) (wr.drewN n) := fun n c' => by
                  rw [← HSE.out]; exact text_none _ a c'
                have q3 : P ≤ l.length := by omega
                have hPl : P = l.length := by omega
                have HPl := Lib.hid hPl
                have t5 : decide ((l.length : Int) < (P : Int)) = false := by simp; omega
                have t6 : decide (l.length < P) = false := by simp; omega
                clear hP1 hP2 hPl hT0
                go_wp2
                go_quiet (fail)
                clear hS0
                have HJ2 : Hid (JoinRel V2 Q.length Q A c (wr.drewN nq)) := ⟨HJ1.out.1, below_drewN HJ1.out.2 _⟩
                have HL2 := Lib.hid (HL1.out.drewN nq)
                clear d0 d1 d2 d3 d4 hcv
                generalize wr.drewN nq = W2 at HJ2 HL2 ⊢
                have g0' : W2.cell? ⟨h0, 0, none⟩ = some (.int .i64 (t.kind : Nat)) := (HL2.out.cell 0).trans rfl
                have g1' : W2.cell? ⟨h0, 1, none⟩ = some (.string S) := (HL2.out.cell 1).trans rfl
                rcases hkd with hk3 | ⟨hk4, hT4⟩ | ⟨hk3, hk4⟩
                · have g0 : W2.cell? ⟨h0, 0, none⟩ = some (.int .i64 3) := by rw [hk3] at g0'; exact g0'
                  have PC := Lib.hid (show piece t = [10] by unfold piece; rw [if_pos hk3])
                  clear g0' g1' hk3
                  go_wp2_with (at_builtin; refine wpList_append_bytes rfl _ _ rfl V2.heap.size Q.length 1 1 (Q.length + 1) (.slice A Q.length c) Q [10] (some ⟨W2.heap.size, 0, none⟩) (by rfl) (by rfl) (HJ2.out.alloc _).1 rfl (bytes_one W2 10 rfl) rfl (by omega) (HJ2.out.alloc _).2.size ?_; intro A2 c2 w5 hl2; have P2 := Lib.hid ((HJ2.out.alloc _).longer hl2); clear hl2)
                  go_wp2
                  go_roundw
                  case rel =>
                    refine ⟨k + 1, m', c2, A2, by omega, hm', ?_, ?_, by rw [HB'.out], rfl, by go_num, ?_, ?_⟩
                    · rw [HAG.out, PC.out]; simp
                    · rw [HN'.out]
                    · intro u hu
                      rw [HN'.out]
                      exact HNT.out u hu
                    · rw [HAG.out, PC.out]; simpa using P2.out
                  case measure => simp [intOf]; omega
                · have g0 : W2.cell? ⟨h0, 0, none⟩ = some (.int .i64 4) := by rw [hk4] at g0'; exact g0'
                  have PC := Lib.hid (show piece t = [] by unfold piece; rw [if_neg (by omega), if_pos hk4])
                  clear g0' g1' hk4
                  go_wp2
                  go_roundw
                  case rel =>
                    refine ⟨k + 1, m', c, A, by omega, hm', ?_, ?_, by rw [HB'.out], rfl, by go_num, ?_, ?_⟩
                    · rw [HAG.out, PC.out]; simp
                    · rw [HN'.out]
                    · intro u hu
                      rw [HN'.out]
                      exact HNT.out u hu
                    · rw [HAG.out, PC.out]; simpa using HJ2.out
                  case measure => simp [intOf]; omega
                · have PC := Lib.hid (show piece t = t.text ++ [32] by unfold piece; rw [if_neg hk3, if_neg hk4])
                  have y1 : ((t.kind : Int) == 3) = false := by simp; omega
                  have y2 : ((t.kind : Int) != 4) = true := by simp; omega
                  have hpl : Q.length + (t.text.length + 1) ≤ 100000 := by
                    have := congrArg List.length HAG.out
                    rw [PC.out] at this
                    simp at this
                    omega
                  have hSz' : S.size ≤ 100000 := by rw [HSz.out]; omega
                  have hQS : Q.length + S.size + 1 ≤ 100000 := by rw [HSz.out]; omega
                  have hcw := conv_bytes W2 S
                  clear hk3 hk4 hpl
                  go_wp2_with (at_builtin; first
                    | (refine wpList_append_bytes rfl _ _ rfl V2.heap.size (Q.length + S.size) 1 1 (Q.length + S.size + 1) (.slice A1 (Q.length + S.size) c1) (Q ++ S.data.toList) [32] (some ⟨w5.heap.size, 0, none⟩) (by rfl) (by rfl) (P1.out.alloc _).1 rfl (bytes_one w5 32 rfl) rfl (by omega) (P1.out.alloc _).2.size ?_
                       intro A2 c2 w6 hl2
                       have P2 := Lib.hid ((P1.out.alloc _).longer hl2)
                       clear hl2)
                    | (refine wpList_append_bytes rfl _ _ rfl V2.heap.size Q.length S.size (grownCap W2 S.size 0 5) (Q.length + S.size) (.slice A Q.length c) Q S.data.toList (some ⟨W2.heap.size, 0, none⟩) (by rfl) (by rfl) (own_conv HJ2.out.1 S) Array.length_toList (bytes_conv W2 S) rfl (by omega) (Nat.le_trans HJ2.out.2.size (below_conv W2 S).size) ?_
                       intro A1 c1 w5 hl1
                       have P1 : Hid (JoinRel V2 (Q.length + S.size) (Q ++ S.data.toList) A1 c1 w5) := JoinRel.longer (A := A) (c := c) (xs := Q) (W1 := Lib.bytesWorld W2 5 S) ⟨own_conv HJ2.out.1 S, HJ2.out.2.trans ((below_conv W2 S).mono HJ2.out.2.size)⟩ hl1
                       clear hl1))
                  go_wp2
                  go_roundw
                  case rel =>
                    refine ⟨k + 1, m', c2, A2, by omega, hm', ?_, ?_, by rw [HB'.out], rfl, by go_num, ?_, ?_⟩
                    · rw [HAG.out, PC.out]; simp [HSz.out]; omega
                    · rw [HN'.out]
                    · intro u hu
                      rw [HN'.out]
                      exact HNT.out u hu
                    · have := P2.out
                      rw [HSd.out, HSz.out] at this
                      rw [HAG.out, PC.out]
                      simpa [Nat.add_assoc] using this
                  case measure => simp [intOf]; omega
              · obtain ⟨b, off, rfl, _, _⟩ := HA1.out.at_ (by omega)
                have hcv : ∀ n c', (convert 22 9 (.slice (some ⟨b, off + P, none⟩) S.size c')).run Try.prog (wr.drewN n) = .ok (.string S) (wr.drewN n) := fun n c' => by
                  have := (HA1.out.drewN n).text (i := P) (n := t.text.length) hP1 rfl (by omega) c'
                  rw [hP2, ← HS.out] at this
                  rw [HSz.out]; exact this
                have q1 : ¬ (cap = P) := fun h => hPc h.symm
                have q2 : P + S.size ≤ cap := by rw [HSz.out]; omega
                have q3 : P + S.size ≤ l.length := by rw [HSz.out]; omega
                clear hP1 hP2 hPc
                have t5 : decide ((l.length : Int) < (P : Int) + (S.size : Int)) = false := by simp; omega
                go_wp2
                go_quiet (fail)
                have HJ2 : Hid (JoinRel V2 Q.length Q A c (wr.drewN nq)) := ⟨HJ1.out.1, below_drewN HJ1.out.2 _⟩
                have HL2 := Lib.hid (HL1.out.drewN nq)
                clear d0 d1 d2 d3 d4 hcv
                generalize wr.drewN nq = W2 at HJ2 HL2 ⊢
                have g0' : W2.cell? ⟨h0, 0, none⟩ = some (.int .i64 (t.kind : Nat)) := (HL2.out.cell 0).trans rfl
                have g1' : W2.cell? ⟨h0, 1, none⟩ = some (.string S) := (HL2.out.cell 1).trans rfl
                rcases hkd with hk3 | ⟨hk4, hT4⟩ | ⟨hk3, hk4⟩
                · have g0 : W2.cell? ⟨h0, 0, none⟩ = some (.int .i64 3) := by rw [hk3] at g0'; exact g0'
                  have PC := Lib.hid (show piece t = [10] by unfold piece; rw [if_pos hk3])
                  clear g0' g1' hk3
                  go_wp2_with (at_builtin; refine wpList_append_bytes rfl _ _ rfl V2.heap.size Q.length 1 1 (Q.length + 1) (.slice A Q.length c) Q [10] (some ⟨W2.heap.size, 0, none⟩) (by rfl) (by rfl) (HJ2.out.alloc _).1 rfl (bytes_one W2 10 rfl) rfl (by omega) (HJ2.out.alloc _).2.size ?_; intro A2 c2 w5 hl2; have P2 := Lib.hid ((HJ2.out.alloc _).longer hl2); clear hl2)
                  go_wp2
                  go_roundw
                  case rel =>
                    refine ⟨k + 1, m', c2, A2, by omega, hm', ?_, ?_, by rw [HB'.out], rfl, by go_num, ?_, ?_⟩
                    · rw [HAG.out, PC.out]; simp
                    · rw [HN'.out]
                    · intro u hu
                      rw [HN'.out]
                      exact HNT.out u hu
                    · rw [HAG.out, PC.out]; simpa using P2.out
                  case measure => simp [intOf]; omega
                · have g0 : W2.cell? ⟨h0, 0, none⟩ = some (.int .i64 4) := by rw [hk4] at g0'; exact g0'
                  have PC := Lib.hid (show piece t = [] by unfold piece; rw [if_neg (by omega), if_pos hk4])
                  clear g0' g1' hk4
                  go_wp2
                  go_roundw
                  case rel =>
                    refine ⟨k + 1, m', c, A, by omega, hm', ?_, ?_, by rw [HB'.out], rfl, by go_num, ?_, ?_⟩
                    · rw [HAG.out, PC.out]; simp
                    · rw [HN'.out]
                    · intro u hu
                      rw [HN'.out]
                      exact HNT.out u hu
                    · rw [HAG.out, PC.out]; simpa using HJ2.out
                  case measure => simp [intOf]; omega
                · have PC := Lib.hid (show piece t = t.text ++ [32] by unfold piece; rw [if_neg hk3, if_neg hk4])
                  have y1 : ((t.kind : Int) == 3) = false := by simp; omega
                  have y2 : ((t.kind : Int) != 4) = true := by simp; omega
                  have hpl : Q.length + (t.text.length + 1) ≤ 100000 := by
                    have := congrArg List.length HAG.out
                    rw [PC.out] at this
                    simp at this
                    omega
                  have hSz' : S.size ≤ 100000 := by rw [HSz.out]; omega
                  have hQS : Q.length + S.size + 1 ≤ 100000 := by rw [HSz.out]; omega
                  have hcw := conv_bytes W2 S
                  clear hk3 hk4 hpl
                  go_wp2_with (at_builtin; first
                    | (refine wpList_append_bytes rfl _ _ rfl V2.heap.size (Q.length + S.size) 1 1 (Q.length + S.size + 1) (.slice A1 (Q.length + S.size) c1) (Q ++ S.data.toList) [32] (some ⟨w5.heap.size, 0, none⟩) (by rfl) (by rfl) (P1.out.alloc _).1 rfl (bytes_one w5 32 rfl) rfl (by omega) (P1.out.alloc _).2.size ?_
                       intro A2 c2 w6 hl2
                       have P2 := Lib.hid ((P1.out.alloc _).longer hl2)
                       clear hl2)
                    | (refine wpList_append_bytes rfl _ _ rfl V2.heap.size Q.length S.size (grownCap W2 S.size 0 5) (Q.length + S.size) (.slice A Q.length c) Q S.data.toList (some ⟨W2.heap.size, 0, none⟩) (by rfl) (by rfl) (own_conv HJ2.out.1 S) Array.length_toList (bytes_conv W2 S) rfl (by omega) (Nat.le_trans HJ2.out.2.size (below_conv W2 S).size) ?_
                       intro A1 c1 w5 hl1
                       have P1 : Hid (JoinRel V2 (Q.length + S.size) (Q ++ S.data.toList) A1 c1 w5) := JoinRel.longer (A := A) (c := c) (xs := Q) (W1 := Lib.bytesWorld W2 5 S) ⟨own_conv HJ2.out.1 S, HJ2.out.2.trans ((below_conv W2 S).mono HJ2.out.2.size)⟩ hl1
                       clear hl1))
                  go_wp2
                  go_roundw
                  case rel =>
                    refine ⟨k + 1, m', c2, A2, by omega, hm', ?_, ?_, by rw [HB'.out], rfl, by go_num, ?_, ?_⟩
                    · rw [HAG.out, PC.out]; simp [HSz.out]; omega
                    · rw [HN'.out]
                    · intro u hu
                      rw [HN'.out]
                      exact HNT.out u hu
                    · have := P2.out
                      rw [HSd.out, HSz.out] at this
                      rw [HAG.out, PC.out]
                      simpa [Nat.add_assoc] using this
                  case measure => simp [intOf]; omega
        · have t2 : decide ((k : Int) < (ts.length : Int)) = false := by simp; omega
          have t2' : decide (k < ts.length) = false := by simp; omega
          rw [List.take_of_length_le (by omega)] at HJR ⊢
          obtain ⟨Q, hQ⟩ : ∃ Q, Q = again ts := ⟨_, rfl⟩
          obtain ⟨ms, hms, hkey⟩ := back HF.out 1
          have hLQ : lex Q = (ms, 0, 0, 0) := by rw [hQ]; exact hms
          have hAQ : ans Q = ms := by unfold ans; rw [hLQ]; rfl
          have hml2 : ms.length = ts.length := by have := congrArg List.length hkey; simpa using this
          have HKY := Lib.hid hkey
          rw [← hQ] at HJR hag ⊢
          clear hQ hms hkey
          have K3 := Lib.hid (tokens Q A c (by omega) (Bytes.own HJR.out.1).2)
          go_wp2_with (fail)
          with_reducible refine K3.out.mono ?_
          rintro e w7 ⟨M, cm, rfl, hncm, htm, _, hb7⟩
          rw [hAQ] at hncm htm
          rw [hAQ, hLQ]
          simp only [spotV]
          rw [hml2] at hncm ⊢
          have HML := Lib.hid hml2
          have HW7 := Lib.hid ((HB2.out.trans ((HJR.out.2.trans (hb7.mono HJR.out.2.size)).mono HB2.out.size)).alloc (Nat.le_trans HB2.out.size (Nat.le_trans HJR.out.2.size hb7.size)) (.cells #[.int .i64 0, .int .i64 0, .int .i64 0] 27))
          have HX := Lib.hid (((HT2.out.below (Nat.le_refl _) HJR.out.2).below (Nat.le_refl _) hb7).below (Nat.le_refl _) ((Below.refl _ _).alloc (Nat.le_refl _) (.cells #[.int .i64 0, .int .i64 0, .int .i64 0] 27)))
          have HM := Lib.hid (htm.below (Nat.le_refl _) ((Below.refl _ _).alloc (Nat.le_refl _) (.cells #[.int .i64 0, .int .i64 0, .int .i64 0] 27)))
          clear hb7 htm hLQ hAQ hml2
          go_wp2
          obtain ⟨V7, hV7⟩ : ∃ V, V = w7.alloc (.cells #[.int .i64 0, .int .i64 0, .int .i64 0] 27) := ⟨_, rfl⟩
          rw [← hV7] at HX HM HW7
          rw [← hV7]
          clear hV7
          go_loopw [14] (fun i W => SameRel ts.length V7 i W) (fun i _ => ts.length - (intOf i).toNat)
          case atStart => exact ⟨0, 0, by omega, rfl, rfl⟩
          case round =>
            obtain ⟨q, d, hq, rfl, rfl⟩ := hrel
            by_cases hql : q < ts.length
            · have t3 : decide ((q : Int) < (ts.length : Int)) = true := by simp; omega
              obtain ⟨bx, ox, rfl, _, hcx⟩ := HX.out (by omega)
              obtain ⟨bm, om, rfl, _, hcm⟩ := HM.out (by rw [HML.out]; omega)
              obtain ⟨t, ht⟩ : ∃ t, ts[q]? = some t := ⟨_, List.getElem?_eq_getElem hql⟩
              obtain ⟨u, hu⟩ : ∃ u, ms[q]? = some u := ⟨_, List.getElem?_eq_getElem (by rw [HML.out]; exact hql)⟩
              obtain ⟨x0, x1, x2, x3, _⟩ := Toks.cells hcx ht
              obtain ⟨y0, y1, y2, y3, _⟩ := Toks.cells hcm hu
              have hk : key u = key t := by
                have h1 : (ms.map key)[q]? = some (key u) := by rw [List.getElem?_map, hu]; rfl
                rw [HKY.out, List.getElem?_map, ht] at h1
                exact (Option.some.inj h1).symm
              have e1 : u.kind = t.kind := congrArg Prod.fst hk
              have e2 : u.text = t.text := congrArg (fun x => x.2.1) hk
              have e3 : u.value = t.value := congrArg (fun x => x.2.2.1) hk
              have e4 : u.line = t.line := congrArg (fun x => x.2.2.2) hk
              rw [e1] at y0
              rw [e2] at y1
              rw [e3] at y2
              rw [e4] at y3
              clear hcx hcm ht hu hk e1 e2 e3 e4
              generalize (⟨t.text.toArray⟩ : ByteArray) = S at x1 y1
              generalize t.kind = v0 at x0 y0
              generalize t.value = v2 at x2 y2
              generalize t.line = v3 at x3 y3
              go_wp2
              go_quiet (fail)
              go_wp2
              go_roundw
              case rel => first | exact ⟨q + 1, _, by omega, by go_num, rfl⟩ | exact ⟨q + 1, _, by omega, by go_num, World.drewN_drewN _ _ _⟩
              case measure => simp [intOf]; omega
            · have t3 : decide ((q : Int) < (ts.length : Int)) = false := by simp; omega
              have t3' : decide (q < ts.length) = false := by simp; omega
              go_wp2
              go_ret
              exact ⟨rfl, below_drewN HW7.out _⟩
    · have z0 : ((e0 : Int) != 0) = true := by simp; exact he0
      have hA0 : ans l = [] := by unfold ans; rw [HE.out, if_neg he0]
      obtain ⟨h1, h2, h3⟩ := errs l 1 1 (Nat.le_refl _) (Nat.le_refl _) (by have := HE.out; unfold lex at this; rw [this]; exact he0)
      have hE : (lexA l 1 1).2 = (e0, n1, n2) := HE.out
      rw [hE] at h1 h2 h3
      have g1 : e0 = 5 ∨ e0 = 2 := h1
      have g2 : 1 ≤ n1 := h2
      have g3 : 1 ≤ n2 := h3
      have t7 : decide ((1 : Int) ≤ (n1 : Int)) = true := by simp; omega
      have t8 : decide ((1 : Int) ≤ (n2 : Int)) = true := by simp; omega
      rw [hA0]
      have HBW := Lib.hid ((H1.out.trans (hb2.mono H1.out.size)).alloc (Nat.le_trans H1.out.size hb2.size) (.cells #[.int .i64 (e0 : Int), .int .i64 (n1 : Int), .int .i64 (n2 : Int)] 27))
      clear h1 h2 h3 hE htx hb2
      simp only [List.length_nil]
      rcases g1 with rfl | rfl
      · go_wp2
        go_ret
        exact ⟨rfl, HBW.out⟩
      · go_wp2
        go_ret
        exact ⟨rfl, HBW.out⟩
end Go.Proofs.Ytdjpijmihlpbjaa
