/- The walk of the statement on numbers and their digits. -/
import Derived.Test.YtdjpijmihlpbjaaBa
import Derived.Test.YtdjpijmihlpbjaaSq
namespace Go.Proofs.Ytdjpijmihlpbjaa
open Go.RowKit

theorem vals_cons (n : Nat) (c : UInt8) (l : List UInt8) : vals n (c :: l) = vals (n * 10 + (c.toNat - 48)) l := by exact rfl
theorem vals_nil (n : Nat) : vals n [] = n := rfl
theorem vals_pow (l : List UInt8) : ∀ n, n * 10 ^ l.length ≤ vals n l := by
  induction l with
  | nil => intro n; rw [vals_nil, List.length_nil, Nat.pow_zero, Nat.mul_one]; exact Nat.le_refl n
  | cons c l ih =>
    intro n
    have := ih (n * 10 + (c.toNat - 48))
    rw [vals_cons, List.length_cons, Nat.pow_succ]
    refine Nat.le_trans ?_ this
    rw [Nat.mul_comm (10 ^ l.length) 10, ← Nat.mul_assoc]
    exact Nat.mul_le_mul_right _ (by omega)
theorem vals_short {l : List UInt8} {n K : Nat} (h : vals n l = K) (hK : K ≤ 1099511627776) (hn : 0 < n) : l.length ≤ 12 := by
  rcases Nat.lt_or_ge 12 l.length with hlt | hge
  · have h1 := vals_pow l n
    have h2 : 10 ^ 13 ≤ 10 ^ l.length := Nat.pow_le_pow_right (by omega) (by omega)
    have h3 : 1 * 10 ^ l.length ≤ n * 10 ^ l.length := Nat.mul_le_mul_right _ hn
    omega
  · exact hge
theorem toList_ahead (c : UInt8) (s : ByteArray) : (⟨#[c]⟩ ++ s : ByteArray).data.toList = c :: s.data.toList := by simp
theorem size_ahead (c : UInt8) (s : ByteArray) : (⟨#[c]⟩ ++ s : ByteArray).size = 1 + s.size := by rw [ByteArray.size_append]; rfl
theorem bytes_back (s : ByteArray) : (⟨s.data.toList.toArray⟩ : ByteArray) = s := by cases s; simp
def allD (s : ByteArray) : Prop := ∀ x ∈ s.data.toList, digitC x = true
def DigRel (w : World) (K : Nat) (vs vx : Value) (W : World) : Prop :=
  ∃ (s : ByteArray) (X : Nat), vs = .string s ∧ vx = .int .i64 (X : Int) ∧ X ≤ K ∧ vals X s.data.toList = K ∧ allD s ∧ s.size ≤ 13 ∧ (0 < X → s.size ≤ 12) ∧ Below w.heap.size w W
def ZeroRel (W0 : World) (K Z : Nat) (vs vi : Value) (W : World) : Prop :=
  ∃ (s : ByteArray) (i : Nat), vs = .string s ∧ vi = .int .i64 (i : Int) ∧ i ≤ Z + 1 ∧ vals 0 s.data.toList = K ∧ allD s ∧ s.size ≤ 13 + i ∧ (0 < i → 0 < s.size) ∧ W = W0
theorem allD_nil : allD ⟨#[]⟩ := fun x hx => by cases hx
theorem digit_of (X : Nat) : digitC (UInt8.ofNat (48 + X % 10)) = true ∧ (UInt8.ofNat (48 + X % 10)).toNat = 48 + X % 10 := by
  have : (UInt8.ofNat (48 + X % 10)).toNat = 48 + X % 10 := by rw [UInt8.toNat_ofNat']; omega
  exact ⟨by unfold digitC; rw [this]; simp; omega, this⟩
/-- The tokens of digits. -/
theorem lex_digits {l : List UInt8} {K : Nat} (h0 : 0 < l.length) (hd : ∀ x ∈ l, digitC x = true) (hv : vals 0 l = K) (hK : K ≤ 1099511627776) :
    lex l = ([⟨2, l, K, 1, 1⟩, ⟨4, [], 0, 1, 1 + l.length⟩], 0, 0, 0) := by
  cases l with
  | nil => simp at h0
  | cons c p =>
    have := lexA_num (p := p) (q := []) (line := 1) (col := 1) (hd c (by simp)) (fun x hx => hd x (by simp [hx])) Ends.nil (by rw [hv]; exact hK)
    rw [List.append_nil] at this
    unfold lex
    rw [this, lexA_nil, hv]
    rfl
theorem lex3 : lex [32, 32, 49, 48, 57, 57, 53, 49, 49, 54, 50, 55, 55, 55, 55] = ([], 2, 1, 3) := by kernel_rfl
theorem ans3 : ans [32, 32, 49, 48, 57, 57, 53, 49, 49, 54, 50, 55, 55, 55, 55] = [] := by unfold ans; rw [lex3]; rfl

set_option maxRecDepth 100000 in
set_option maxHeartbeats 8000000 in
theorem coreNumbers (n z : Nat) (w : World) (hn : n < 18446744073709551616) (hz : z ≤ 255) : Calls Try.prog 5 #[.int .u64 (n : Int), .int .u8 (z : Int)] w (Woke w) := by
  obtain ⟨K, hK⟩ : ∃ K, K = n % 1099511627777 := ⟨_, rfl⟩
  have hKb : K ≤ 1099511627776 := by omega
  have q1 : (n : Int) % 1099511627777 = (K : Int) := by omega
  obtain ⟨Z, hZ⟩ : ∃ Z, Z = z % 30 := ⟨_, rfl⟩
  have hZb : Z ≤ 29 := by omega
  have q2 : (z : Int) % 30 = (Z : Int) := by omega
  clear hK hZ
  go_enter Try.func5, Try.ntmps5
  go_wp2_with (fail)
  refine (awake _).mono ?_
  rintro e w1 ⟨rfl, hb1⟩
  have H1 := Lib.hid hb1
  clear hb1
  go_wp2
  go_loopw [6, 7] (fun vs vx W => DigRel w K vs vx W) (fun _ vx _ => (intOf vx).toNat)
  case atStart => exact ⟨⟨#[]⟩, K, rfl, rfl, Nat.le_refl _, rfl, allD_nil, (by decide), (fun _ => by decide), H1.out⟩
  case round =>
    obtain ⟨s, X, rfl, rfl, hX, hv, hall, hs, hs2, hb⟩ := hrel
    have HV := Lib.hid hv
    have HA := Lib.hid hall
    have HB := Lib.hid hb
    clear hv hall hb
    by_cases hX0 : 0 < X
    · have hs3 := hs2 hX0
      have t1 : decide ((0 : Int) < (X : Int)) = true := by simp; omega
      obtain ⟨hd1, hd2⟩ := digit_of X
      have hcv : (convert 22 9 (.slice (some ⟨wr.heap.size, 0, none⟩) 1 1)).run Try.prog (wr.alloc (.cells #[.int .u8 (48 + (X : Int) % 10)] 5)) = .ok (.string ⟨#[UInt8.ofNat (48 + X % 10)]⟩) (wr.alloc (.cells #[.int .u8 (48 + (X : Int) % 10)] 5)) :=
        (bytes_one wr (UInt8.ofNat (48 + X % 10)) (z := 48 + (X : Int) % 10) (by rw [hd2]; omega)).whole 1
      have HD1 := Lib.hid hd1
      have HD2 := Lib.hid hd2
      clear hd1 hd2 hs2
      generalize UInt8.ofNat (48 + X % 10) = c at hcv HD1 HD2
      have hsz := size_ahead c s
      have HSZ := Lib.hid hsz
      have hsz0 : (⟨#[c]⟩ : ByteArray).size = 1 := rfl
      go_wp2
      go_roundw
      case rel =>
        refine ⟨⟨#[c]⟩ ++ s, X / 10, rfl, by go_num, by omega, ?_, ?_, by rw [HSZ.out]; omega, fun h10 => ?_, HB.out.alloc HB.out.size _⟩
        · rw [toList_ahead, vals_cons, HD2.out, show X / 10 * 10 + (48 + X % 10 - 48) = X by omega]; exact HV.out
        · intro x hx
          rw [toList_ahead] at hx
          rcases List.mem_cons.1 hx with rfl | hx
          · exact HD1.out
          · exact HA.out x hx
        · have := vals_short (n := X / 10) (l := (⟨#[c]⟩ ++ s : ByteArray).data.toList) (K := K) (by rw [toList_ahead, vals_cons, HD2.out, show X / 10 * 10 + (48 + X % 10 - 48) = X by omega]; exact HV.out) hKb h10
          rw [Array.length_toList] at this
          exact this
      case measure => simp [intOf]; omega
    · have t1 : decide ((0 : Int) < (X : Int)) = false := by simp; omega
      obtain rfl : X = 0 := by omega
      go_wp2
      go_loopw [6, 8] (fun vs vi W => ZeroRel wr K Z vs vi W) (fun _ vi _ => Z + 1 - (intOf vi).toNat)
      case atStart => exact ⟨s, 0, rfl, rfl, by omega, HV.out, HA.out, by omega, fun h => by omega, rfl⟩
      case round =>
        obtain ⟨s', i, rfl, rfl, hi, hv', hall', hs', hpos, rfl⟩ := hrel
        have HV1 := Lib.hid hv'
        have HA1 := Lib.hid hall'
        clear hv' hall'
        by_cases hiZ : i ≤ Z
        · have t2 : decide ((i : Int) ≤ (Z : Int)) = true := by simp; omega
          have hsz := size_ahead 48 s'
          have HSZ := Lib.hid hsz
          have hsz0 : (⟨#[48]⟩ : ByteArray).size = 1 := rfl
          go_wp2
          go_roundw
          case rel =>
            refine ⟨⟨#[48]⟩ ++ s', i + 1, rfl, by go_num, by omega, ?_, ?_, by rw [HSZ.out]; omega, fun _ => by rw [HSZ.out]; omega, rfl⟩
            · rw [toList_ahead]; exact HV1.out
            · intro x hx
              rw [toList_ahead] at hx
              rcases List.mem_cons.1 hx with rfl | hx
              · decide
              · exact HA1.out x hx
          case measure => simp [intOf]; omega
        · have t2 : decide ((i : Int) ≤ (Z : Int)) = false := by simp; omega
          have hs0 := hpos (by omega)
          have hlen : s'.data.toList.length = s'.size := Array.length_toList
          have HLX := Lib.hid (lex_digits (by rw [hlen]; exact hs0) HA1.out HV1.out hKb)
          rw [hlen] at HLX
          have HAX : Hid (ans s'.data.toList = [⟨2, s'.data.toList, K, 1, 1⟩, ⟨4, [], 0, 1, 1 + s'.size⟩]) := by unfold ans; rw [HLX.out]; rfl
          have hcv := conv_bytes wr s'
          have hbb := below_conv wr s'
          have KT : Hid (Calls Try.prog 10 #[.slice (some ⟨wr.heap.size, 0, none⟩) s'.size (grownCap wr s'.size 0 5)] (Lib.bytesWorld wr 5 s') (Lexed s'.data.toList (Lib.bytesWorld wr 5 s'))) := by
            have := tokens s'.data.toList _ _ (by rw [hlen]; omega) (bytes_conv wr s')
            rwa [hlen] at this
          generalize Lib.bytesWorld wr 5 s' = W1 at hcv hbb KT
          generalize grownCap wr s'.size 0 5 = cp at hcv KT
          have HB2 := Lib.hid (HB.out.trans (hbb.mono HB.out.size))
          clear hbb
          go_wp2_with (fail)
          with_reducible refine KT.out.mono ?_
          rintro e w3 ⟨A, c, rfl, _, htk, _, hb3⟩
          rw [HAX.out] at htk
          rw [HAX.out, HLX.out]
          simp only [spotV, List.length_cons, List.length_nil, Nat.reduceAdd]
          have HT := Lib.hid htk
          have HB3 := Lib.hid (HB2.out.trans (hb3.mono HB2.out.size))
          clear htk hb3 hcv
          obtain ⟨V, hV⟩ : ∃ V, V = w3.alloc (.cells #[.int .i64 0, .int .i64 0, .int .i64 0] 27) := ⟨_, rfl⟩
          have hVs : V.heap.size = w3.heap.size + 1 := by rw [hV]; simp
          have K2 : Hid (Calls Try.prog 10 #[.slice (some ⟨w3.heap.size + 1, 0, none⟩) 15 15] (V.alloc (litO [32, 32, 49, 48, 57, 57, 53, 49, 49, 54, 50, 55, 55, 55, 55])) (Lexed [32, 32, 49, 48, 57, 57, 53, 49, 49, 54, 50, 55, 55, 55, 55] (V.alloc (litO [32, 32, 49, 48, 57, 57, 53, 49, 49, 54, 50, 55, 55, 55, 55])))) := by
            have := lit_tokens [32, 32, 49, 48, 57, 57, 53, 49, 49, 54, 50, 55, 55, 55, 55] V (by simp); rw [hVs] at this; exact this
          have hc2 : (convert 22 22 (.slice (some ⟨w3.heap.size + 1, 0, none⟩) 15 15)).run Try.prog ((w3.alloc (.cells #[.int .i64 0, .int .i64 0, .int .i64 0] 27)).alloc (.cells #[.int .u8 32, .int .u8 32, .int .u8 49, .int .u8 48, .int .u8 57, .int .u8 57, .int .u8 53, .int .u8 49, .int .u8 49, .int .u8 54, .int .u8 50, .int .u8 55, .int .u8 55, .int .u8 55, .int .u8 55] 5)) = .ok (.slice (some ⟨w3.heap.size + 1, 0, none⟩) 15 15) (V.alloc (litO [32, 32, 49, 48, 57, 57, 53, 49, 49, 54, 50, 55, 55, 55, 55])) := by
            have := conv_lit V #[.int .u8 32, .int .u8 32, .int .u8 49, .int .u8 48, .int .u8 57, .int .u8 57, .int .u8 53, .int .u8 49, .int .u8 49, .int .u8 54, .int .u8 50, .int .u8 55, .int .u8 55, .int .u8 55, .int .u8 55] 15 15; rw [hVs] at this; rw [← hV]; exact this
          have HV : Hid (Below w3.heap.size w3 (V.alloc (litO [32, 32, 49, 48, 57, 57, 53, 49, 49, 54, 50, 55, 55, 55, 55]))) := by rw [hV]; exact ((Below.refl _ _).alloc (Nat.le_refl _) _).alloc (by simp) _
          have HS : Hid (Lies (V.alloc (litO [32, 32, 49, 48, 57, 57, 53, 49, 49, 54, 50, 55, 55, 55, 55])) w3.heap.size 27 #[.int .i64 0, .int .i64 0, .int .i64 0]) := by rw [hV]; exact (Lies.made _ _ _).alloc _
          clear hV hVs
          go_wp2_with (fail)
          refine K2.out.mono ?_
          rintro e w4 ⟨A2, c2, rfl, _, _, _, hb4⟩
          rw [ans3, lex3]
          simp only [spotV, List.length_nil]
          have HB4 := Lib.hid ((HV.out.trans (hb4.mono HV.out.size)).alloc (B := w3.heap.size) (Nat.le_trans HV.out.size hb4.size) (.cells #[.int .i64 2, .int .i64 1, .int .i64 3] 27))
          have HS4 := Lib.hid ((HS.out.below hb4 HS.out.lt).alloc (.cells #[.int .i64 2, .int .i64 1, .int .i64 3] 27))
          obtain ⟨b, off, rfl, _, hcs⟩ := HT.out.below (Nat.le_refl _) HB4.out (by simp)
          have x1 := (Toks.cells hcs (i := 0) (t := ⟨2, s'.data.toList, K, 1, 1⟩) rfl).2.1
          have x2 := (Toks.cells hcs (i := 0) (t := ⟨2, s'.data.toList, K, 1, 1⟩) rfl).2.2.1
          simp only [Nat.zero_mul, Nat.add_zero, bytes_back] at x1 x2
          have y0 := (HS4.out.cell 0).trans rfl
          clear hb4 hc2 hcs
          go_wp2
          go_ret
          exact ⟨rfl, HB3.out.trans (HB4.out.mono HB3.out.size)⟩
theorem u64_of {n : Int} (h : (Lit.int .u64 n).wf = true) : 0 ≤ n ∧ n ≤ 18446744073709551615 := by
  have h' : IntKind.u64.min ≤ n ∧ n ≤ IntKind.u64.max := by simpa [Lit.wf] using h
  have e1 : IntKind.u64.min = 0 := rfl
  have e2 : IntKind.u64.max = 18446744073709551615 := rfl
  omega
theorem coreNumbers' (n z : Int) (w : World) (hn : (Lit.int .u64 n).wf = true) (hz : (Lit.int .u8 z).wf = true) : Calls Try.prog 5 #[.int .u64 n, .int .u8 z] w (Woke w) := by
  obtain ⟨h1, h2⟩ := u64_of hn
  obtain ⟨g1, g2⟩ := byte_of hz
  obtain ⟨n', rfl⟩ : ∃ n' : Nat, n = (n' : Int) := ⟨n.toNat, by omega⟩
  obtain ⟨z', rfl⟩ : ∃ z' : Nat, z = (z' : Int) := ⟨z.toNat, by omega⟩
  exact coreNumbers n' z' w (by omega) (by omega)
end Go.Proofs.Ytdjpijmihlpbjaa
