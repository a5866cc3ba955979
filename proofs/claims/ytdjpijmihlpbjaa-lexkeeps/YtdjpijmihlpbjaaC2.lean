/- The walk of the statement on what is handed in, and new memory. -/
import Derived.Test.YtdjpijmihlpbjaaBa
namespace Go.Proofs.Ytdjpijmihlpbjaa
open Go.RowKit

theorem own_lies {w : World} {B n c : Nat} {A : Option Addr} {cs : List Value} (h : w.ownsRow B 5 1 (.slice A n c) n cs) (h0 : 0 < n) : ∃ g cur, A = some ⟨g, 0, none⟩ ∧ B ≤ g ∧ Lies w g 5 cur ∧ n ≤ cur.size := by
  rcases h.2 with ⟨_, h0'⟩ | ⟨g, cap, cur, e, hb, hg, hnc, _, hsz, _⟩
  · omega
  · cases e
    exact ⟨g, cur, rfl, hb, hg, by omega⟩
theorem Toks.far {W : World} {A : Option Addr} {Z : List Tok} {b : Nat} (h : Toks W A Z) (hA : ∀ x, A = some x → b ≤ x.block) {g i : Nat} (hg : g < b) (u : Value) : Toks (W.setCell ⟨g, i, none⟩ u) A Z := by
  intro h0
  obtain ⟨b', off, rfl, hlt, hc⟩ := h h0
  have hb' : b ≤ b' := hA _ rfl
  have hk : (W.setCell ⟨g, i, none⟩ u).heap[b']? = W.heap[b']? := Below.heap_setCell _ _ _ b' (show b' ≠ g by omega)
  refine ⟨b', off, rfl, by simpa [World.setCell] using hlt, fun i t hi j v hj => ?_⟩
  have := hc i t hi j v hj
  simpa only [World.cell?, hk] using this
/-- Some of its bytes are written over; the tokens stand. -/
def KeepRel (w : World) (bd n : Nat) (A A' : Option Addr) (ts : List Tok) (i : Value) (W : World) : Prop :=
  ∃ k : Nat, k ≤ n ∧ i = .int .i64 (k : Int) ∧ (0 < n → ∃ g cs, A = some ⟨g, 0, none⟩ ∧ w.heap.size ≤ g ∧ g < bd ∧ Lies W g 5 cs ∧ n ≤ cs.size) ∧ Toks W A' ts ∧ Below w.heap.size w W

set_option maxRecDepth 100000 in
set_option maxHeartbeats 4000000 in
theorem coreKeeps (l : List UInt8) (a : Option Addr) (cap : Nat) {w : World} (hm : l.length ≤ maxLen) (hb : Bytes w a cap l) : Calls Try.prog 6 #[.slice a l.length cap] w (Woke w) := by
  unfold maxLen at hm
  have HB := Lib.hid hb
  clear hb
  by_cases h5 : 5000 < l.length
  · have t1 : decide ((5000 : Int) < (l.length : Int)) = true := by simp; omega
    go_enter Try.func6, Try.ntmps6
    go_wp2_with (fail)
    refine (awake _).mono ?_
    rintro e w1 ⟨rfl, hb1⟩
    have H1 := Lib.hid hb1
    clear hb1
    go_wp2_with (fail)
    refine (awake _).mono ?_
    rintro e w2 ⟨rfl, hb2⟩
    have H2 := Lib.hid (H1.out.trans (hb2.mono H1.out.size))
    clear hb2
    go_wp2
    go_ret
    exact ⟨rfl, H2.out⟩
  · have t1 : decide ((5000 : Int) < (l.length : Int)) = false := by simp; omega
    have hlen := ans_len l
    obtain ⟨e0, n1, n2, hs⟩ : ∃ e n1 n2, (lex l).2 = (e, n1, n2) := ⟨_, _, _, rfl⟩
    have HE := Lib.hid hs
    clear hs
    go_enter Try.func6, Try.ntmps6
    go_wp2_with (fail)
    refine (awake _).mono ?_
    rintro e w1 ⟨rfl, hb1⟩
    have H1 := Lib.hid hb1
    have h1s := hb1.size
    have HE1 := Lib.hid (own_empty w1 (base := w.heap.size) hb1.size)
    have HBE := Lib.hid ((HB.out.below (Nat.le_refl _) (hb1.alloc hb1.size (.cells #[] 5))))
    clear hb1
    go_wp2_with (at_builtin; refine wpList_append_bytes rfl _ _ rfl w.heap.size 0 l.length cap l.length _ [] l a (by rfl) (by rfl) HE1.out rfl HBE.out (by omega) (by omega) (by simp; omega) ?_; intro A c w2 hl2; have H2 := Lib.hid hl2; have KT := Lib.hid (tokens l A c (by omega) (Bytes.own hl2.1).2); clear hl2)
    with_reducible refine KT.out.mono ?_
    rintro e w3 ⟨A', c', rfl, hnc, htk, hA', hb3⟩
    rw [HE.out]
    simp only [spotV]
    have HB2 := Lib.hid (H2.out.below ((H1.out.alloc H1.out.size (.cells #[] 5))) (by simp; omega) (fun k hk => (own_lt HE1.out hk).1))
    obtain ⟨V, hV⟩ : ∃ V, V = w3.alloc (.cells #[.int .i64 (e0 : Int), .int .i64 (n1 : Int), .int .i64 (n2 : Int)] 27) := ⟨_, rfl⟩
    have h2V : Below w2.heap.size w2 V := by rw [hV]; exact hb3.alloc hb3.size _
    have HBV := Lib.hid (HB2.out.trans (h2V.mono HB2.out.size))
    have HTV : Hid (Toks V A' (ans l)) := by rw [hV]; exact htk.below (Nat.le_refl _) ((Below.refl _ _).alloc (Nat.le_refl _) _)
    have hownV : V.ownsRow w.heap.size 5 1 (.slice A l.length c) l.length (bytesV l) := own_same H2.out.1 (fun k hk => h2V.block k (own_lt H2.out.1 hk).2)
    have hcA := (Bytes.own hownV).2.whole c
    have hcB := (HB.out.below (Nat.le_refl _) HBV.out).whole cap
    have HLV : Hid (0 < l.length → ∃ g cs, A = some ⟨g, 0, none⟩ ∧ w.heap.size ≤ g ∧ g < w2.heap.size ∧ Lies V g 5 cs ∧ l.length ≤ cs.size) := fun h0 => by
      obtain ⟨g, cur, rfl, h1, h2, h3⟩ := own_lies hownV h0
      exact ⟨g, cur, rfl, h1, (own_lt H2.out.1 rfl).2, h2, h3⟩
    have HA' := Lib.hid hA'
    rw [hV] at hcA hcB
    clear htk hA' hb3 h2V hownV
    generalize (⟨l.toArray⟩ : ByteArray) = S at hcA hcB
    go_wp2_with (fail)
    rw [← hV]
    clear hcA hcB hV
    go_loopw [6] (fun i W => KeepRel w w2.heap.size l.length A A' (ans l) i W) (fun i _ => l.length - (intOf i).toNat)
    case atStart => exact ⟨0, by omega, rfl, HLV.out, HTV.out, HBV.out⟩
    case round =>
      obtain ⟨k, hk, rfl, hLi, hTo, hBe⟩ := hrel
      have HTo := Lib.hid hTo
      have HBe := Lib.hid hBe
      have HLi := Lib.hid hLi
      clear hTo hBe hLi
      by_cases hlt : k < l.length
      · have t2 : decide ((k : Int) < (l.length : Int)) = true := by simp; omega
        obtain ⟨g, cs, rfl, hg1, hg2, hL, hsz⟩ := HLi.out (by omega)
        have ck : wr.cell? ⟨g, k, none⟩ = some (cs[k]'(by omega)) := (hL.cell k).trans (Array.getElem?_eq_getElem _)
        have fk := hL.thawed k
        have HL := Lib.hid hL
        clear hL
        generalize cs[k]'(by omega) = old at ck
        go_wp2
        go_roundw
        case rel => exact ⟨k + 1, by omega, by go_num, fun _ => ⟨g, _, rfl, hg1, hg2, HL.out.here k _, by simpa using hsz⟩, HTo.out.far HA'.out hg2 _, HBe.out.setCell hg1 _⟩
        case measure => simp [intOf]; omega
      · have t2 : decide ((k : Int) < (l.length : Int)) = false := by simp; omega
        have t2' : decide (k < l.length) = false := by simp; omega
        have K2 := Lib.hid (refTokens l a cap (by omega) (HB.out.below (Nat.le_refl _) HBe.out))
        go_wp2_with (fail)
        with_reducible refine K2.out.mono ?_
        rintro e w4 ⟨B', d', rfl, _, htk', _, hb4⟩
        rw [HE.out]
        simp only [spotV]
        have H4 := Lib.hid ((HBe.out.trans (hb4.mono HBe.out.size)).alloc (Nat.le_trans HBe.out.size hb4.size) (.cells #[.int .i64 (e0 : Int), .int .i64 (n1 : Int), .int .i64 (n2 : Int)] 27))
        have KS := Lib.hid (same (ans l) A' B' c' d' (by omega) ((HTo.out.below (Nat.le_refl _) hb4).below (Nat.le_refl _) ((Below.refl _ _).alloc (Nat.le_refl _) (.cells #[.int .i64 (e0 : Int), .int .i64 (n1 : Int), .int .i64 (n2 : Int)] 27))) (htk'.below (Nat.le_refl _) ((Below.refl _ _).alloc (Nat.le_refl _) (.cells #[.int .i64 (e0 : Int), .int .i64 (n1 : Int), .int .i64 (n2 : Int)] 27))))
        clear htk' hb4
        go_wp2_with (fail)
        with_reducible refine KS.out.mono ?_
        rintro e w5 ⟨rfl, m, rfl⟩
        go_wp2
        go_ret
        exact ⟨rfl, below_drewN H4.out m⟩
end Go.Proofs.Ytdjpijmihlpbjaa
