/- The walk of the statement on what is handed in, and new memory. -/
import Derived.Test.YteolepmopajamaaC5
import Derived.Test.YteolepmopajamaaC3
namespace Go.Proofs.Yteolepmopajamaa
open Go.RowKit Lx Kx

theorem own_lies {w : World} {B n c : Nat} {A : Option Addr} {cs : List Value} (h : w.ownsRow B 5 1 (.slice A n c) n cs) (h0 : 0 < n) : ∃ g cur, A = some ⟨g, 0, none⟩ ∧ B ≤ g ∧ Lies w g 5 cur ∧ n ≤ cur.size := by
  rcases h.2 with ⟨_, h0'⟩ | ⟨g, cap, cur, e, hb, hg, hnc, _, hsz, _⟩
  · omega
  · cases e
    exact ⟨g, cur, rfl, hb, hg, by omega⟩
theorem tasks_far {W : World} {A : Option Addr} {c : Nat} {l : List Tk} {b : Nat} (h : Tasks W A c l) (hA : ∀ x, A = some x → b ≤ x.block) {g i : Nat} (hg : g < b) (u : Value) : Tasks (W.setCell ⟨g, i, none⟩ u) A c l := by
  refine ⟨h.le, fun h0 => ?_⟩
  obtain ⟨b', off, rfl, hlt, hc⟩ := h.form h0
  have hb' : b ≤ b' := hA _ rfl
  have hk : (W.setCell ⟨g, i, none⟩ u).heap[b']? = W.heap[b']? := Below.heap_setCell _ _ _ b' (show b' ≠ g by omega)
  refine ⟨b', off, rfl, by simpa [World.setCell] using hlt, fun i t hi j v hj => ?_⟩
  have := hc i t hi j v hj
  simpa only [World.cell?, hk] using this
/-- Some of its bytes are written over; the set stands. -/
def KeepRel (w : World) (bd n s : Nat) (cS : Array Value) (A A' : Option Addr) (c' : Nat) (L : List Tk) (i : Value) (W : World) : Prop :=
  ∃ k : Nat, k ≤ n ∧ i = .int .i64 (k : Int) ∧ (0 < n → ∃ g cs, A = some ⟨g, 0, none⟩ ∧ w.heap.size ≤ g ∧ g < bd ∧ Lies W g 5 cs ∧ n ≤ cs.size) ∧ Tasks W A' c' L ∧ Lies W s 26 cS ∧ Below w.heap.size w W

set_option maxRecDepth 100000 in
set_option maxHeartbeats 8000000 in
theorem coreKeeps (l : List UInt8) (a : Option Addr) (cap : Nat) {w : World} (hm : l.length ≤ maxLen) (hb : Bytes w a cap l) : Calls Try.prog 6 #[.slice a l.length cap] w (Woke w) := by
  unfold maxLen at hm
  have HB := Lib.hid hb
  have hle := hb.le
  clear hb
  by_cases h5 : 5000 < l.length
  · have t1 : decide ((5000 : Int) < (l.length : Int)) = true := by simp; omega
    go_enter Try.func6, Try.ntmps6
    go_wp2_with (fail)
    refine (awake _).mono ?_
    rintro e w1 ⟨rfl, hb1⟩
    have H1 := Lib.hid hb1
    clear hb1
    go_wp2_with (fail)
    refine (awake _).mono ?_
    rintro e w2 ⟨rfl, hb2⟩
    have H2 := Lib.hid (H1.out.trans (hb2.mono H1.out.size))
    clear hb2
    go_wp2
    go_ret
    exact ⟨rfl, H2.out⟩
  · have t1 : decide ((5000 : Int) < (l.length : Int)) = false := by simp; omega
    go_enter Try.func6, Try.ntmps6
    go_wp2_with (fail)
    refine (awake _).mono ?_
    rintro e w1 ⟨rfl, hb1⟩
    have H1 := Lib.hid hb1
    have h1s := hb1.size
    have HE1 := Lib.hid (own_empty w1 (base := w.heap.size) hb1.size)
    have HBE := Lib.hid ((HB.out.below (Nat.le_refl _) (hb1.alloc hb1.size (.cells #[] 5))))
    clear hb1
    obtain ⟨⟨⟨B, L⟩, E, li, co⟩, hS⟩ : ∃ S, S = setA l := ⟨_, rfl⟩
    have hls := len_set16 l
    rw [← hS] at hls
    have hls' : L.length ≤ 16 := hls
    have HS := Lib.hid hS
    clear hS hls
    go_wp2_with (at_builtin; refine wpList_append_bytes rfl _ _ rfl w.heap.size 0 l.length cap l.length _ [] l a (by rfl) (by rfl) HE1.out rfl HBE.out (by omega) (by omega) (by simp; omega) ?_; intro A c w2 hl2; have H2 := Lib.hid hl2; have KT := Lib.hid (set' (n := l.length) HS.out.symm (by omega) rfl (Bytes.own hl2.1).2); clear hl2)
    with_reducible refine KT.out.mono ?_
    rintro e w3 ⟨A', c', rfl, htk, hA', hb3⟩
    have HB2 := Lib.hid (H2.out.below ((H1.out.alloc H1.out.size (.cells #[] 5))) (by simp; omega) (fun k hk => (own_lt HE1.out hk).1))
    obtain ⟨V, hV⟩ : ∃ V, V = (w3.alloc (.cells #[.int .i64 B, .slice A' L.length c'] 26)).alloc (.cells #[.int .i64 (E : Int), .int .i64 (li : Int), .int .i64 (co : Int)] 29) := ⟨_, rfl⟩
    have HV3 : Hid (Below w3.heap.size w3 V) := by rw [hV]; exact (below_new _ _).alloc (by simp) _
    have h2V : Below w2.heap.size w2 V := hb3.trans (HV3.out.mono hb3.size)
    have HBV := Lib.hid (HB2.out.trans (h2V.mono HB2.out.size))
    have HTV := Lib.hid (htk.below (Nat.le_refl _) HV3.out)
    have HSV : Hid (Lies V w3.heap.size 26 #[.int .i64 B, .slice A' L.length c']) := by rw [hV]; exact (Lies.made _ _ _).alloc _
    have hownV : V.ownsRow w.heap.size 5 1 (.slice A l.length c) l.length (bytesV l) := own_same H2.out.1 (fun k hk => h2V.block k (own_lt H2.out.1 hk).2)
    have hcA := (Bytes.own hownV).2.whole c
    have hcB := (HB.out.below (Nat.le_refl _) HBV.out).whole cap
    have h23 : w2.heap.size ≤ w3.heap.size := hb3.size
    have HLV : Hid (0 < l.length → ∃ g cs, A = some ⟨g, 0, none⟩ ∧ w.heap.size ≤ g ∧ g < w2.heap.size ∧ Lies V g 5 cs ∧ l.length ≤ cs.size) := fun h0 => by
      obtain ⟨g, cur, rfl, h1, h2, h3⟩ := own_lies hownV h0
      exact ⟨g, cur, rfl, h1, (own_lt H2.out.1 rfl).2, h2, h3⟩
    have HA' := Lib.hid hA'
    have HVE := Lib.hid hV
    clear htk hA' hb3 h2V hownV hV
    generalize (⟨l.toArray⟩ : ByteArray) = S at hcA hcB
    go_upto_region 5 with fail
    rw [← HVE.out]
    go_wp2_with (fail)
    clear hcA hcB
    go_loopw [6] (fun i W => KeepRel w w2.heap.size l.length w3.heap.size #[.int .i64 B, .slice A' L.length c'] A A' c' L i W) (fun i _ => l.length - (intOf i).toNat)
    case atStart => exact ⟨0, by omega, rfl, HLV.out, HTV.out, HSV.out, HBV.out⟩
    case round =>
      obtain ⟨k, hk, rfl, hLi, hTo, hSo, hBe⟩ := hrel
      have HTo := Lib.hid hTo
      have HSo := Lib.hid hSo
      have HBe := Lib.hid hBe
      have HLi := Lib.hid hLi
      clear hTo hBe hLi hSo
      by_cases hlt : k < l.length
      · have t2 : decide ((k : Int) < (l.length : Int)) = true := by simp; omega
        obtain ⟨g, cs, rfl, hg1, hg2, hL, hsz⟩ := HLi.out (by omega)
        have ck : wr.cell? ⟨g, k, none⟩ = some (cs[k]'(by omega)) := (hL.cell k).trans (Array.getElem?_eq_getElem _)
        have fk := hL.thawed k
        have HL := Lib.hid hL
        clear hL
        generalize cs[k]'(by omega) = old at ck
        go_wp2
        go_roundw
        case rel => exact ⟨k + 1, by omega, by go_num, fun _ => ⟨g, _, rfl, hg1, hg2, HL.out.here k _, by simpa using hsz⟩, tasks_far HTo.out HA'.out hg2 _, HSo.out.there (a := ⟨g, k, none⟩) (show w3.heap.size ≠ g by omega) _, HBe.out.setCell hg1 _⟩
        case measure => simp [intOf]; omega
      · have t2 : decide ((k : Int) < (l.length : Int)) = false := by simp; omega
        have t2' : decide (k < l.length) = false := by simp; omega
        have K2 := Lib.hid (refSet' HS.out.symm (by omega) rfl (HB.out.below (Nat.le_refl _) HBe.out))
        go_wp2_with (fail)
        with_reducible refine K2.out.mono ?_
        rintro e w4 ⟨B', d', rfl, htk', _, hb4⟩
        obtain ⟨V4, hV4⟩ : ∃ V4, V4 = (w4.alloc (.cells #[.int .i64 B, .slice B' L.length d'] 26)).alloc (.cells #[.int .i64 (E : Int), .int .i64 (li : Int), .int .i64 (co : Int)] 29) := ⟨_, rfl⟩
        have HV4 := Lib.hid hV4
        have HW4 : Hid (Below w4.heap.size w4 V4) := by rw [hV4]; exact (below_new _ _).alloc (by simp) _
        have HVV := Lib.hid (hb4.trans (HW4.out.mono hb4.size))
        have HWV := Lib.hid (HBe.out.trans (HVV.out.mono HBe.out.size))
        have HL1 := Lib.hid (HSo.out.below HVV.out HSo.out.lt)
        have HL3 : Hid (Lies V4 w4.heap.size 26 #[.int .i64 B, .slice B' L.length d']) := by rw [hV4]; exact (Lies.made _ _ _).alloc _
        have KS := Lib.hid (same B L A' B' c' d' (w := V4) (by omega) (HTo.out.below (Nat.le_refl _) HVV.out) (htk'.below (Nat.le_refl _) HW4.out))
        clear htk' hb4 hV4
        go_upto_region 12 with fail
        rw [← HV4.out]
        have a0 : V4.cell? ⟨w3.heap.size, 0, none⟩ = some (.int .i64 B) := (HL1.out.cell 0).trans rfl
        have a1 : V4.cell? ⟨w3.heap.size, 1, none⟩ = some (.slice A' L.length c') := (HL1.out.cell 1).trans rfl
        have d0 : V4.cell? ⟨w4.heap.size, 0, none⟩ = some (.int .i64 B) := (HL3.out.cell 0).trans rfl
        have d1 : V4.cell? ⟨w4.heap.size, 1, none⟩ = some (.slice B' L.length d') := (HL3.out.cell 1).trans rfl
        go_wp2_with (fail)
        with_reducible refine KS.out.mono ?_
        rintro e w5 ⟨rfl, hb5⟩
        have HB5 := Lib.hid (HWV.out.trans (hb5.mono HWV.out.size))
        clear hb5 a0 a1 d0 d1
        go_wp2
        go_ret
        exact ⟨rfl, HB5.out⟩
end Go.Proofs.Yteolepmopajamaa
