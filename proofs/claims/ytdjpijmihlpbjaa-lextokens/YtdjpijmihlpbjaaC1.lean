/- The walk of the statement on whatever bytes. -/
import Derived.Test.YtdjpijmihlpbjaaAw
namespace Go.Proofs.Ytdjpijmihlpbjaa
open Go.RowKit

theorem ans_len (l : List UInt8) : (ans l).length ≤ l.length + 1 := by
  have key : ∀ l : List UInt8, ∀ line col, (lexA l line col).1.length ≤ l.length + 1 := by
    intro l
    induction l using text_rec with
    | nil => intro line col; simp [lexA_nil]
    | word c p q hc hp hq ih => intro line col; rw [lexA_word hc hp hq]; have := ih line (col + (p.length + 1)); simp [cons]; omega
    | num c p q hc hp hq ih =>
      intro line col
      by_cases hv : vals 0 (c :: p) ≤ most
      · rw [lexA_num hc hp hq hv]; have := ih line (col + (p.length + 1)); simp [cons]; omega
      · rw [lexA_over hc hp hq hv]; simp
    | blank c q hc ih => intro line col; rw [lexA_blank hc]; have := ih line (col + 1); simp; omega
    | remark c p q hc hp hq ih => intro line col; rw [lexA_remark hc hp hq]; have := ih line (col + (p.length + 1)); simp; omega
    | line c q hc ih => intro line col; rw [lexA_line hc]; have := ih (line + 1) 1; simp [cons]; omega
    | bad c q h1 h2 h3 h4 h5 => intro line col; rw [lexA_bad h1 h2 h3 h4 h5]; simp
  unfold ans
  split
  · exact key l 1 1
  · simp

set_option maxRecDepth 100000 in
set_option maxHeartbeats 4000000 in
theorem coreTokens (l : List UInt8) (a : Option Addr) (cap : Nat) {w : World} (hm : l.length ≤ maxLen) (hb : Bytes w a cap l) : Calls Try.prog 3 #[.slice a l.length cap] w (Woke w) := by
  unfold maxLen at hm
  have HB := Lib.hid hb
  clear hb
  by_cases h5 : 5000 < l.length
  · have t1 : decide ((5000 : Int) < (l.length : Int)) = true := by simp; omega
    go_enter Try.func3, Try.ntmps3
    go_wp2_with (fail)
    refine (awake _).mono ?_
    rintro e w1 ⟨rfl, hb1⟩
    have H1 := Lib.hid hb1
    clear hb1
    go_wp2_with (fail)
    refine (awake _).mono ?_
    rintro e w2 ⟨rfl, hb2⟩
    have H2 := Lib.hid (H1.out.trans (hb2.mono H1.out.size))
    clear hb2
    go_wp2
    go_ret
    exact ⟨rfl, H2.out⟩
  · have t1 : decide ((5000 : Int) < (l.length : Int)) = false := by simp; omega
    have hlen := ans_len l
    obtain ⟨e0, n1, n2, hs⟩ : ∃ e n1 n2, (lex l).2 = (e, n1, n2) := ⟨_, _, _, rfl⟩
    have HE := Lib.hid hs
    clear hs
    go_enter Try.func3, Try.ntmps3
    go_wp2_with (fail)
    refine (awake _).mono ?_
    rintro e w1 ⟨rfl, hb1⟩
    have H1 := Lib.hid hb1
    clear hb1
    have K1 := Lib.hid (tokens l a cap (by omega) (HB.out.below (Nat.le_refl _) H1.out))
    go_wp2_with (fail)
    with_reducible refine K1.out.mono ?_
    rintro e w2 ⟨A, c, rfl, hnc, htk, _, hb2⟩
    have H2 := Lib.hid (H1.out.trans (hb2.mono H1.out.size))
    have HT := Lib.hid htk
    clear hb2 htk
    rw [HE.out]
    simp only [spotV]
    obtain ⟨V, hV⟩ : ∃ V, V = w2.alloc (.cells #[.int .i64 (e0 : Int), .int .i64 (n1 : Int), .int .i64 (n2 : Int)] 27) := ⟨_, rfl⟩
    have H3 : Hid (Below w.heap.size w V) := by rw [hV]; exact H2.out.alloc H2.out.size _
    have HS3 : Hid (Lies V w2.heap.size 27 #[.int .i64 (e0 : Int), .int .i64 (n1 : Int), .int .i64 (n2 : Int)]) := by rw [hV]; exact Lies.made _ _ _
    have HT3 : Hid (Toks V A (ans l)) := by rw [hV]; exact HT.out.below (Nat.le_refl _) ((Below.refl _ _).alloc (Nat.le_refl _) _)
    have K2 := Lib.hid (refTokens l a cap (by omega) (HB.out.below (Nat.le_refl _) H3.out))
    rw [hV] at K2
    go_wp2_with (fail)
    refine K2.out.mono ?_
    rw [← hV]
    rintro e w4 ⟨A', c', rfl, hnc', htk', _, hb4⟩
    have H4 := Lib.hid (H3.out.trans (hb4.mono H3.out.size))
    have HS4 := Lib.hid ((HS3.out.below hb4 HS3.out.lt).alloc (.cells #[.int .i64 (e0 : Int), .int .i64 (n1 : Int), .int .i64 (n2 : Int)] 27))
    have HT4 := Lib.hid ((HT3.out.below (Nat.le_refl _) hb4).below (Nat.le_refl _) ((Below.refl _ _).alloc (Nat.le_refl _) (.cells #[.int .i64 (e0 : Int), .int .i64 (n1 : Int), .int .i64 (n2 : Int)] 27)))
    have HT4' := Lib.hid (htk'.below (Nat.le_refl _) ((Below.refl _ _).alloc (Nat.le_refl _) (.cells #[.int .i64 (e0 : Int), .int .i64 (n1 : Int), .int .i64 (n2 : Int)] 27)))
    have y0 : (w4.alloc (.cells #[.int .i64 (e0 : Int), .int .i64 (n1 : Int), .int .i64 (n2 : Int)] 27)).cell? ⟨w2.heap.size, 0, none⟩ = some (.int .i64 (e0 : Int)) := (HS4.out.cell 0).trans rfl
    have y1 : (w4.alloc (.cells #[.int .i64 (e0 : Int), .int .i64 (n1 : Int), .int .i64 (n2 : Int)] 27)).cell? ⟨w2.heap.size, 1, none⟩ = some (.int .i64 (n1 : Int)) := (HS4.out.cell 1).trans rfl
    have y2 : (w4.alloc (.cells #[.int .i64 (e0 : Int), .int .i64 (n1 : Int), .int .i64 (n2 : Int)] 27)).cell? ⟨w2.heap.size, 2, none⟩ = some (.int .i64 (n2 : Int)) := (HS4.out.cell 2).trans rfl
    rw [HE.out]
    simp only [spotV]
    have KS := Lib.hid (same (ans l) A A' c c' (by omega) HT4.out HT4'.out)
    clear hb4 htk' hV
    go_wp2_with (fail)
    refine KS.out.mono ?_
    rintro e w5 ⟨rfl, m, rfl⟩
    go_wp2
    go_ret
    exact ⟨rfl, below_drewN (H4.out.alloc H4.out.size _) m⟩
end Go.Proofs.Ytdjpijmihlpbjaa
