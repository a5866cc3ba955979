/- The walk of the statement on lines' ends and remarks. -/
import Derived.Test.YtdjpijmihlpbjaaC4
import Derived.Test.YtdjpijmihlpbjaaC3
namespace Go.Proofs.Ytdjpijmihlpbjaa
open Go.RowKit

theorem lines_cases (l r : List UInt8) (hr : ∀ x ∈ r, lineC x = true) :
    ((lex l).2.1 ≠ 0 ∧ (lex (l ++ 35 :: r)).2 = (lex l).2 ∧ ans (l ++ 35 :: r) = []) ∨
    (∃ ts C C', (lex l).2 = (0, 0, 0) ∧ ans l = ts ++ [⟨4, [], 0, 1 + nl l, C⟩] ∧ cnt3 ts = nl l ∧ (lex (l ++ 35 :: r)).2 = (0, 0, 0) ∧ ans (l ++ 35 :: r) = ts ++ [⟨4, [], 0, 1 + nl l, C'⟩]) := by
  rcases join35 r 35 rfl hr l 1 1 with ⟨ts, s, h0, h1, h2⟩ | ⟨ts, L, C, C', h1, h2⟩
  · have e1 : lex l = (ts, s) := h1
    have e2 : lex (l ++ 35 :: r) = (ts, s) := h2
    exact .inl ⟨by rw [e1]; exact h0, by rw [e1, e2], by unfold ans; rw [e2, if_neg h0]⟩
  · have e1 : lex l = (ts ++ [⟨4, [], 0, L, C⟩], 0, 0, 0) := h1
    have e2 : lex (l ++ 35 :: r) = (ts ++ [⟨4, [], 0, L, C'⟩], 0, 0, 0) := h2
    obtain ⟨ts', c', h3, h4⟩ := counts l 1 1 (by rw [h1])
    rw [h1] at h3
    have h5 : ts ++ [(⟨4, [], 0, L, C⟩ : Tok)] = ts' ++ [⟨4, [], 0, 1 + nl l, c'⟩] := congrArg Prod.fst h3
    have h6 := List.append_inj' h5 rfl
    have h7 : (⟨4, [], 0, L, C⟩ : Tok) = ⟨4, [], 0, 1 + nl l, c'⟩ := by simpa using h6.2
    have h8 : L = 1 + nl l := congrArg Tok.line h7
    subst h8
    rw [← h6.1] at h4
    refine .inr ⟨ts, C, C', by rw [e1], by unfold ans; rw [e1]; rfl, h4, by rw [e2], by unfold ans; rw [e2]; rfl⟩
theorem nl_le (l : List UInt8) : nl l ≤ l.length := by
  induction l with
  | nil => exact Nat.le_refl _
  | cons c l ih => rw [nl, List.length_cons]; split <;> omega
theorem nl_next {b : List UInt8} {m : Nat} {c : UInt8} (h : b[m]? = some c) : nl (b.take (m + 1)) = nl (b.take m) + (if c.toNat = 10 then 1 else 0) := by
  rw [List.take_add_one, h, nl_append]; simp [nl]
theorem cnt3_next {b : List Tok} {m : Nat} {t : Tok} (h : b[m]? = some t) : cnt3 (b.take (m + 1)) = cnt3 (b.take m) + (if t.kind = 3 then 1 else 0) := by
  rw [List.take_add_one, h, cnt3_append]; simp [cnt3]
theorem cnt3_le (l : List Tok) : cnt3 l ≤ l.length := by
  induction l with
  | nil => exact Nat.le_refl _
  | cons c l ih => rw [cnt3, List.length_cons]; split <;> omega
/-- How many lines' ends stand among the first bytes. -/
def NlRel (l : List UInt8) (W0 : World) (n i : Value) (W : World) : Prop := ∃ k : Nat, k ≤ l.length ∧ n = .int .i64 (nl (l.take k) : Nat) ∧ i = .int .i64 (k : Int) ∧ W = W0
def NoRel (r : List UInt8) (W0 : World) (i : Value) (W : World) : Prop := ∃ k : Nat, k ≤ r.length ∧ i = .int .i64 (k : Int) ∧ W = W0 ∧ ∀ j c, j < k → r[j]? = some c → lineC c = true
def EndsRel (ts : List Tok) (W0 : World) (n i : Value) (W : World) : Prop := ∃ k : Nat, k ≤ ts.length ∧ n = .int .i64 (cnt3 (ts.take k) : Nat) ∧ i = .int .i64 (k : Int) ∧ W = W0

set_option maxRecDepth 100000 in
set_option maxHeartbeats 8000000 in
theorem coreLines (l : List UInt8) (s : ByteArray) (a : Option Addr) (cap : Nat) {w : World} (hm : l.length ≤ maxLen) (ha : Bytes w a cap l) : Calls Try.prog 7 #[.slice a l.length cap, .string s] w (Woke w) := by
  unfold maxLen at hm
  have HA := Lib.hid ha
  clear ha
  by_cases h5 : 3000 < l.length
  · have t1 : decide ((3000 : Int) < (l.length : Int)) = true := by simp; omega
    go_enter Try.func7, Try.ntmps7
    go_wp2_with (fail)
    refine (awake _).mono ?_
    rintro e w1 ⟨rfl, hb1⟩
    have H1 := Lib.hid hb1
    clear hb1
    go_wp2_with (fail)
    refine (awake _).mono ?_
    rintro e w2 ⟨rfl, hb2⟩
    have H2 := Lib.hid (H1.out.trans (hb2.mono H1.out.size))
    clear hb2
    go_wp2
    go_ret
    exact ⟨rfl, H2.out⟩
  · have t1 : decide ((3000 : Int) < (l.length : Int)) = false := by simp; omega
    by_cases h6 : 500 < s.size
    · have t2 : decide ((500 : Int) < (s.size : Int)) = true := by simp; omega
      go_enter Try.func7, Try.ntmps7
      go_wp2_with (fail)
      refine (awake _).mono ?_
      rintro e w1 ⟨rfl, hb1⟩
      have H1 := Lib.hid hb1
      clear hb1
      go_wp2_with (fail)
      refine (awake _).mono ?_
      rintro e w2 ⟨rfl, hb2⟩
      have H2 := Lib.hid (H1.out.trans (hb2.mono H1.out.size))
      clear hb2
      go_wp2
      go_ret
      exact ⟨rfl, H2.out⟩
    · have t2 : decide ((500 : Int) < (s.size : Int)) = false := by simp; omega
      obtain ⟨r, hrd⟩ : ∃ r, r = s.data.toList := ⟨_, rfl⟩
      have hsr : s.size = r.length := by rw [hrd]; exact Array.length_toList.symm
      have HAT : Hid (∀ k (h : k < s.size) c, r[k]? = some c → s[k] = c) := by
        intro k h c hc
        rw [hrd, Array.getElem?_toList, Array.getElem?_eq_getElem (show k < s.data.size from h)] at hc
        exact Option.some.inj hc
      have hlen := ans_len l
      have hlen' := ans_len (l ++ 35 :: r)
      have hnl := nl_le l
      obtain ⟨e0, n1, n2, hs⟩ : ∃ e n1 n2, (lex l).2 = (e, n1, n2) := ⟨_, _, _, rfl⟩
      obtain ⟨g0, k1, k2, hs''⟩ : ∃ e n1 n2, (lex (l ++ 35 :: r)).2 = (e, n1, n2) := ⟨_, _, _, rfl⟩
      have HE := Lib.hid hs
      have HG := Lib.hid hs''
      obtain ⟨S, hS⟩ : ∃ S : ByteArray, S = ⟨#[35]⟩ ++ s := ⟨_, rfl⟩
      have HSL : Hid (S.data.toList = 35 :: r) := by rw [hS, hrd]; exact toList_ahead 35 s
      have hSs : S.size = 1 + s.size := by rw [hS]; exact size_ahead 35 s
      have hSb : S.size ≤ 501 := by omega
      have hcat := hS.symm
      clear hs hs'' hrd hS hSs
      go_enter Try.func7, Try.ntmps7
      go_wp2_with (fail)
      refine (awake _).mono ?_
      rintro e w1 ⟨rfl, hb1⟩
      have H1 := Lib.hid hb1
      clear hb1
      have K1 := Lib.hid (tokens l a cap (by omega) (HA.out.below (Nat.le_refl _) H1.out))
      go_wp2_with (fail)
      with_reducible refine K1.out.mono ?_
      rintro e w2 ⟨X, cx, rfl, hncx, htx, _, hb2⟩
      rw [HE.out]
      simp only [spotV]
      obtain ⟨V2, hV2⟩ : ∃ V, V = w2.alloc (.cells #[.int .i64 (e0 : Int), .int .i64 (n1 : Int), .int .i64 (n2 : Int)] 27) := ⟨_, rfl⟩
      have HB2 : Hid (Below w.heap.size w V2) := by rw [hV2]; exact (H1.out.trans (hb2.mono H1.out.size)).alloc (Nat.le_trans H1.out.size hb2.size) _
      have HT2 : Hid (Toks V2 X (ans l)) := by rw [hV2]; exact htx.below (Nat.le_refl _) ((Below.refl _ _).alloc (Nat.le_refl _) _)
      have HS2 : Hid (Lies V2 w2.heap.size 27 #[.int .i64 (e0 : Int), .int .i64 (n1 : Int), .int .i64 (n2 : Int)]) := by rw [hV2]; exact Lies.made _ _ _
      have HAV := Lib.hid (HA.out.below (Nat.le_refl _) HB2.out)
      clear htx hb2
      go_wp2
      rw [← hV2]
      clear hV2
      go_loopw [7, 8] (fun n i W => NlRel l V2 n i W) (fun _ i _ => l.length - (intOf i).toNat)
      case atStart => exact ⟨0, by omega, by rw [List.take_zero]; rfl, rfl, rfl⟩
      case round =>
        obtain ⟨k, hk, rfl, rfl, rfl⟩ := hrel
        have hnk := nl_le (l.take k)
        rw [List.length_take] at hnk
        by_cases hlt : k < l.length
        · have t3 : decide ((k : Int) < (l.length : Int)) = true := by simp; omega
          obtain ⟨b, off, rfl, _, hc⟩ := HAV.out.at_ (by have := HAV.out.le; omega)
          obtain ⟨x, hx⟩ : ∃ x, l[k]? = some x := ⟨_, List.getElem?_eq_getElem hlt⟩
          have ck := hc k x hx
          have hnx := nl_next hx
          have HNX := Lib.hid hnx
          clear hc hx hnx
          by_cases hx10 : x.toNat = 10
          · have ck' : wr.cell? ⟨b, off + k, none⟩ = some (.int .u8 10) := by rw [hx10] at ck; exact ck
            have HX := Lib.hid hx10
            clear ck hx10
            generalize nl (l.take k) = N0 at hnk HNX
            go_wp2
            go_roundw
            case rel => exact ⟨k + 1, by omega, (by rw [HNX.out, if_pos HX.out]; go_num), by go_num, rfl⟩
            case measure => simp [intOf]; omega
          · obtain ⟨z, hz⟩ : ∃ z : Int, z = (x.toNat : Int) := ⟨_, rfl⟩
            rw [← hz] at ck
            have t4 : (z == 10) = false := by simp; omega
            have HX := Lib.hid hx10
            clear hx10 hz
            generalize nl (l.take k) = N0 at hnk HNX
            go_wp2
            go_roundw
            case rel => exact ⟨k + 1, by omega, (by rw [HNX.out, if_neg HX.out, Nat.add_zero]), by go_num, rfl⟩
            case measure => simp [intOf]; omega
        · have t3 : decide ((k : Int) < (l.length : Int)) = false := by simp; omega
          have t3' : decide (k < l.length) = false := by simp; omega
          have htk : l.take k = l := List.take_of_length_le (by omega)
          rw [htk]
          clear hnk htk
          go_wp2
          go_loopw [9] (fun i W => NoRel r wr i W) (fun i _ => r.length - (intOf i).toNat)
          case atStart => exact ⟨0, by omega, rfl, rfl, fun j c hj => by omega⟩
          case round =>
            obtain ⟨q, hq, rfl, rfl, hno⟩ := hrel
            have HNO := Lib.hid hno
            clear hno
            by_cases hql : q < s.size
            · have t4 : decide ((q : Int) < (s.size : Int)) = true := by simp; omega
              obtain ⟨x, hx⟩ : ∃ x, r[q]? = some x := ⟨_, List.getElem?_eq_getElem (by omega)⟩
              have hat := HAT.out q hql x hx
              have HX := Lib.hid hx
              clear hx
              by_cases hx10 : x.toNat = 10
              · have hbk : (s[q].toNat : Int) = 10 := by rw [hat, hx10]; rfl
                clear hat hx10
                go_wp2
                go_ret
                exact ⟨rfl, HB2.out⟩
              · obtain ⟨z, hz⟩ : ∃ z : Int, z = (x.toNat : Int) := ⟨_, rfl⟩
                have hbk : (s[q].toNat : Int) = z := by rw [hat, hz]
                have t5 : (z == 10) = false := by simp; omega
                have HX10 := Lib.hid hx10
                clear hat hx10 hz
                go_wp2
                go_roundw
                case rel =>
                  refine ⟨q + 1, by omega, by go_num, rfl, fun j c hj hc => ?_⟩
                  by_cases hjq : j = q
                  · subst hjq
                    rw [HX.out] at hc
                    cases hc
                    simp [lineC, HX10.out]
                  · exact HNO.out j c (by omega) hc
                case measure => simp [intOf]; omega
            · have t4 : decide ((q : Int) < (s.size : Int)) = false := by simp; omega
              have t4' : decide (q < s.size) = false := by simp; omega
              have HRL : Hid (∀ x ∈ r, lineC x = true) := fun x hx => by
                obtain ⟨j, hj⟩ := List.getElem?_of_mem hx
                have := (List.getElem?_eq_some_iff.1 hj).1
                exact HNO.out j x (by omega) hj
              have HP0 := Lib.hid (JoinRel.nil wr)
              have HBa : Hid (Bytes (wr.alloc (.cells #[] 5)) a cap l) := HAV.out.below (Nat.le_refl _) ((Below.refl _ _).alloc (Nat.le_refl _) _)
              go_wp2_with (at_builtin; first
                | (refine wpList_append_bytes rfl _ _ rfl wr.heap.size l.length S.size (grownCap w4 S.size 0 5) (l.length + S.size) (.slice A1 l.length c1) l S.data.toList (some ⟨w4.heap.size, 0, none⟩) (by rfl) (by rfl) (own_conv P1.out.1 S) Array.length_toList (bytes_conv w4 S) rfl (by omega) (Nat.le_trans P1.out.2.size (below_conv w4 S).size) ?_
                   intro A2 c2 w5 hl2
                   have P2 : Hid (JoinRel wr (l.length + S.size) (l ++ S.data.toList) A2 c2 w5) := JoinRel.longer (A := A1) (c := c1) (xs := l) (W1 := Lib.bytesWorld w4 5 S) ⟨own_conv P1.out.1 S, P1.out.2.trans ((below_conv w4 S).mono P1.out.2.size)⟩ hl2
                   clear hl2)
                | (refine wpList_append_bytes rfl _ _ rfl wr.heap.size 0 l.length cap l.length (.slice (some ⟨wr.heap.size, 0, none⟩) 0 0) [] l a (by rfl) (by rfl) HP0.out.1 rfl HBa.out (by omega) (by omega) HP0.out.2.size ?_
                   intro A1 c1 w4 hl1
                   have P1 : Hid (JoinRel wr l.length l A1 c1 w4) := HP0.out.longer hl1
                   have hcv := conv_bytes w4 S
                   clear hl1))
              rw [HSL.out] at P2
              obtain ⟨hln, hbz⟩ := Bytes.own P2.out.1
              have K3 := Lib.hid (tokens (l ++ 35 :: r) A2 c2 (by omega) hbz)
              rw [← hln] at K3
              with_reducible refine K3.out.mono ?_
              rintro e w7 ⟨Z, cz, rfl, hncz, htz, _, hb7⟩
              rw [HG.out]
              simp only [spotV]
              have H17 := Lib.hid ((P2.out.2.trans (hb7.mono P2.out.2.size)).alloc (Nat.le_trans P2.out.2.size hb7.size) (.cells #[.int .i64 (g0 : Int), .int .i64 (k1 : Int), .int .i64 (k2 : Int)] 27))
              have HW7 := Lib.hid (HB2.out.trans (H17.out.mono HB2.out.size))
              have HX := Lib.hid (HT2.out.below (Nat.le_refl _) H17.out)
              have HZ := Lib.hid (htz.below (Nat.le_refl _) ((Below.refl _ _).alloc (Nat.le_refl _) (.cells #[.int .i64 (g0 : Int), .int .i64 (k1 : Int), .int .i64 (k2 : Int)] 27)))
              have S1 := Lib.hid (HS2.out.below H17.out HS2.out.lt)
              have x0 : (w7.alloc (.cells #[.int .i64 (g0 : Int), .int .i64 (k1 : Int), .int .i64 (k2 : Int)] 27)).cell? ⟨w2.heap.size, 0, none⟩ = some (.int .i64 (e0 : Int)) := (S1.out.cell 0).trans rfl
              have x1 : (w7.alloc (.cells #[.int .i64 (g0 : Int), .int .i64 (k1 : Int), .int .i64 (k2 : Int)] 27)).cell? ⟨w2.heap.size, 1, none⟩ = some (.int .i64 (n1 : Int)) := (S1.out.cell 1).trans rfl
              have x2 : (w7.alloc (.cells #[.int .i64 (g0 : Int), .int .i64 (k1 : Int), .int .i64 (k2 : Int)] 27)).cell? ⟨w2.heap.size, 2, none⟩ = some (.int .i64 (n2 : Int)) := (S1.out.cell 2).trans rfl
              clear htz hb7 hbz hln hcv
              rcases lines_cases l r HRL.out with ⟨hj1, hj2, hj3⟩ | ⟨ts, C, C', hj1, hj2, hj3, hj4, hj5⟩
              · rw [HE.out, HG.out] at hj2
                rw [HE.out] at hj1
                cases hj2
                rw [hj3]
                have t5 : ((e0 : Int) != 0) = true := by simp; exact hj1
                clear hj1
                simp only [List.length_nil]
                go_wp2
                go_ret
                exact ⟨rfl, HW7.out⟩
              · rw [HE.out] at hj1
                rw [HG.out] at hj4
                have z0 : ((e0 : Int) != 0) = false := by have : e0 = 0 := congrArg Prod.fst hj1; simp [this]
                have z1 : ((g0 : Int) == 0) = true := by have : g0 = 0 := congrArg Prod.fst hj4; simp [this]
                rw [hj5] at HZ hncz hlen'
                rw [hj2] at HX hncx hlen
                rw [hj2, hj5]
                have hc3 := cnt3_append ts [⟨4, [], 0, 1 + nl l, C⟩]
                rw [hj3] at hc3
                have hc4 : cnt3 (ts ++ [⟨4, [], 0, 1 + nl l, C⟩]) = nl l := by rw [hc3]; simp [cnt3]
                clear hj1 hj2 hj3 hj4 hj5 hc3 H17
                obtain ⟨N, hN⟩ : ∃ N, N = nl l := ⟨_, rfl⟩
                rw [← hN] at HX HZ hc4 hlen hlen' hncx hncz hnl ⊢
                have hxl : (ts ++ [(⟨4, [], 0, 1 + N, C⟩ : Tok)]).length = ts.length + 1 := by simp
                have hzl : (ts ++ [(⟨4, [], 0, 1 + N, C'⟩ : Tok)]).length = ts.length + 1 := by simp
                rw [hxl] at hncx hlen ⊢
                rw [hzl] at hncz hlen' ⊢
                have HC4 := Lib.hid hc4
                clear hN hxl hzl hc4
                go_wp2
                obtain ⟨V7, hV7⟩ : ∃ V, V = w7.alloc (.cells #[.int .i64 (g0 : Int), .int .i64 (k1 : Int), .int .i64 (k2 : Int)] 27) := ⟨_, rfl⟩
                have HS7 : Hid (Lies V7 w7.heap.size 27 #[.int .i64 (g0 : Int), .int .i64 (k1 : Int), .int .i64 (k2 : Int)]) := by rw [hV7]; exact Lies.made _ _ _
                rw [← hV7] at HX HZ HW7
                rw [← hV7]
                clear x0 x1 x2 S1 hV7
                go_loopw [12, 13] (fun n i W => EndsRel (ts ++ [⟨4, [], 0, 1 + N, C⟩]) V7 n i W) (fun _ i _ => ts.length + 1 - (intOf i).toNat)
                case atStart => exact ⟨0, by omega, by rw [List.take_zero]; rfl, rfl, rfl⟩
                case round =>
                  obtain ⟨p, hp, rfl, rfl, rfl⟩ := hrel
                  simp only [List.length_append, List.length_cons, List.length_nil, Nat.zero_add] at hp
                  obtain ⟨bx, ox, rfl, _, hcx⟩ := HX.out (by simp)
                  obtain ⟨bz, oz, rfl, _, _⟩ := HZ.out (by simp)
                  have hpc := cnt3_le ((ts ++ [(⟨4, [], 0, 1 + N, C⟩ : Tok)]).take p)
                  rw [List.length_take] at hpc
                  by_cases hpl : p < ts.length + 1
                  · have t6 : decide ((p : Int) < (ts.length : Int) + 1) = true := by simp; omega
                    have t6' : p < ts.length + 1 := hpl
                    obtain ⟨t, ht⟩ : ∃ t, (ts ++ [(⟨4, [], 0, 1 + N, C⟩ : Tok)])[p]? = some t := ⟨_, List.getElem?_eq_getElem (by simp; omega)⟩
                    have c0 := (Toks.cells hcx ht).1
                    have hnx := cnt3_next ht
                    have HNX := Lib.hid hnx
                    clear hcx ht hnx
                    generalize cnt3 ((ts ++ [(⟨4, [], 0, 1 + N, C⟩ : Tok)]).take p) = N0 at hpc HNX
                    by_cases ht3 : t.kind = 3
                    · have c0' : wr.cell? ⟨bx, ox + p * 5, none⟩ = some (.int .i64 3) := by rw [ht3] at c0; exact c0
                      rw [if_pos ht3] at HNX
                      clear c0 ht3
                      go_wp2
                      go_roundw
                      case rel => exact ⟨p + 1, by simp; omega, (by rw [HNX.out]; go_num), by go_num, rfl⟩
                      case measure => simp [intOf]; omega
                    · rw [if_neg ht3] at HNX
                      generalize t.kind = kd at c0 ht3
                      have t7 : ((kd : Int) == 3) = false := by simp; omega
                      clear ht3
                      go_wp2
                      go_roundw
                      case rel => exact ⟨p + 1, by simp; omega, (by rw [HNX.out, Nat.add_zero]), by go_num, rfl⟩
                      case measure => simp [intOf]; omega
                  · have t6 : decide ((p : Int) < (ts.length : Int) + 1) = false := by simp; omega
                    have t6' : decide (p < ts.length + 1) = false := by simp; omega
                    have hpt : (ts ++ [(⟨4, [], 0, 1 + N, C⟩ : Tok)]).take p = ts ++ [⟨4, [], 0, 1 + N, C⟩] := List.take_of_length_le (by simp; omega)
                    rw [hpt, HC4.out]
                    have hlast : (ts ++ [(⟨4, [], 0, 1 + N, C⟩ : Tok)])[ts.length]? = some ⟨4, [], 0, 1 + N, C⟩ := by simp
                    obtain ⟨c0, _, _, c3, _⟩ := Toks.cells hcx hlast
                    have c0' : wr.cell? ⟨bx, ox + ts.length * 5, none⟩ = some (.int .i64 4) := c0
                    have c3' : wr.cell? ⟨bx, ox + ts.length * 5 + 3, none⟩ = some (.int .i64 ((N : Int) + 1)) := by rw [c3]; congr 2; show ((1 + N : Nat) : Int) = _; omega
                    have s0 : wr.cell? ⟨w7.heap.size, 0, none⟩ = some (.int .i64 (g0 : Int)) := (HS7.out.cell 0).trans rfl
                    have hTx : Toks wr (some ⟨bx, ox, none⟩) ts := by
                      have := HX.out.take ts.length
                      rwa [List.take_left'] at this
                      rfl
                    have hTz : Toks wr (some ⟨bz, oz, none⟩) ts := by
                      have := HZ.out.take ts.length
                      rwa [List.take_left'] at this
                      rfl
                    have KS : Hid (∀ n c d, Calls Try.prog 12 #[.slice (some ⟨bx, ox, none⟩) ts.length c, .slice (some ⟨bz, oz, none⟩) ts.length d] (wr.drewN n) (Saw (.bool true) (wr.drewN n))) := fun n c d => same ts _ _ c d (by omega) (hTx.drewN n) (hTz.drewN n)
                    have q1 : ¬ (cz = 0) := by omega
                    have q2 : ¬ (cx = 0) := by omega
                    have q3 : ts.length ≤ cz := by omega
                    have q4 : ts.length ≤ cx := by omega
                    clear hTx hTz c0 c3 hcx hlast hpt hpc
                    go_wp2
                    go_quiet (exact Calls.quiet_of (KS.out _ _ _))
                    go_wp2
                    go_ret
                    exact ⟨rfl, below_drewN HW7.out _⟩
end Go.Proofs.Ytdjpijmihlpbjaa
