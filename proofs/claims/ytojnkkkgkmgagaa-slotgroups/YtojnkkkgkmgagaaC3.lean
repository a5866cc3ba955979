/- The walk of the statement on other groups. -/
import Derived.Test.YtojnkkkgkmgagaaC1
import Derived.Test.YtojnkkkgkmgagaaFl
namespace Go.Proofs.Ytojnkkkgkmgagaa
open Go.RowKit

/-- Two tables, apart. -/
structure Two (w : World) (pa : Nat) (ga : Option Nat) (ma : List Ky) (pb : Nat) (gb : Option Nat) (mb : List Ky) (W : World) : Prop where
  a : Has w pa 256 ga ma W
  b : Has w pb 256 gb mb W
  ne : pa ≠ pb
  n1 : ga ≠ some pb
  n2 : gb ≠ some pa
  n3 : ∀ k, ga = some k → gb ≠ some k
section
variable {w W W' : World} {pa pb : Nat} {ga gb : Option Nat} {ma mb : List Ky}
theorem Two.swap (h : Two w pa ga ma pb gb mb W) : Two w pb gb mb pa ga ma W := ⟨h.b, h.a, h.ne.symm, h.n2, h.n1, fun k hk hk' => h.n3 k hk' hk⟩
theorem Two.keep (h : Two w pa ga ma pb gb mb W) (hb : Below W.heap.size W W') : Two w pa ga ma pb gb mb W' := ⟨h.a.keep hb, h.b.keep hb, h.ne, h.n1, h.n2, h.n3⟩
theorem Two.acts {v : Value} {m' : List Ky} {e : Ending} (h : Two w pa ga ma pb gb mb W) (ha : Then v w pa 256 ga m' W e W') :
    e = .returned v ∧ ∃ g', Two w pa g' m' pb gb mb W' ∧ Turns (fun k => k = pa ∨ ga = some k) W W' := by
  obtain ⟨rfl, g', h1, h2, h3⟩ := ha
  have hb : Has w pb 256 gb mb W' := ⟨h.b.tab.turns h2 (fun e => by
      rcases e with e | e
      · exact h.ne e.symm
      · exact h.n1 e) (fun k hk e => by
      rcases e with e | e
      · exact h.n2 (by rw [hk, e])
      · exact h.n3 k e hk), h1.below⟩
  have hpb := (h.b.tab.lt (.inl rfl)).2
  refine ⟨rfl, g', ⟨h1, hb, h.ne, fun e => ?_, h.n2, fun k hk hk' => ?_⟩, h2⟩
  · rcases h3 with h3 | ⟨k, h3, hk⟩
    · exact h.n1 (h3 ▸ e)
    · rw [h3] at e; cases e; omega
  · rcases h3 with h3 | ⟨k', h3, hk''⟩
    · exact h.n3 k (h3 ▸ hk) hk'
    · rw [h3] at hk; cases hk
      have := (h.b.tab.lt (.inr hk')).2
      omega
theorem Two.reserve (id gr n fr en : Int) (h : Two w pa ga ma pb gb mb W) : Calls Try.prog 12 #[.pointer (some ⟨pa, 0, none⟩), .int .i64 id, .int .i64 gr, .int .i64 n, .int .i64 fr, .int .i64 en] W
    (fun e W' => e = .returned (.tuple #[.int .i64 (resP 256 ma id gr n fr en), .int .i64 (resE 256 ma id gr n fr en)]) ∧ ∃ g', Two w pa g' (resM 256 ma id gr n fr en) pb gb mb W' ∧ Turns (fun k => k = pa ∨ ga = some k) W W') :=
  (has_reserve id gr n fr en h.a).mono fun _ _ => h.acts
end

/-! Of one group alone. -/
def ofG (k : Int) (s : Ky) : Bool := decide (s.2.1 = k)
theorem put_filter {f : Ky → Bool} {m : List Ky} {s : Ky} (hm : Srt m) (hid : idK s ∉ m.map idK) : (putK m s).filter f = if f s = true then putK (m.filter f) s else m.filter f := by
  have hp := (put_perm m s).filter f
  have hs : Srt ((putK m s).filter f) := (put_srt hm hid).sublist List.filter_sublist
  have hf : Srt (m.filter f) := hm.sublist List.filter_sublist
  split
  · rename_i h
    rw [List.filter_cons_of_pos h] at hp
    exact srt_unique hs (put_srt hf (fun h' => hid ((List.filter_sublist.map idK).subset h'))) (hp.trans (put_perm _ _).symm)
  · rename_i h
    rw [List.filter_cons_of_neg h] at hp
    exact srt_unique hs hf hp
theorem grp_other {k id gr n fr en : Int} {m : List Ky} (hm : Srt m) (hid : id ∉ m.map idK) (h : gr ≠ k) : (resM 256 m id gr n fr en).filter (ofG k) = m.filter (ofG k) := by
  unfold resM
  split
  · rw [put_filter (s := (id, gr, lat m gr n en, lat m gr n en + n)) hm hid, if_neg (by simpa [ofG] using h)]
  · rfl
theorem grp_own {k id n fr en : Int} {m : List Ky} (hm : Srt m) (hid : id ∉ m.map idK) (hl : m.length < 256) :
    resE 256 (m.filter (ofG k)) id k n fr en = resE 256 m id k n fr en ∧ resP 256 (m.filter (ofG k)) id k n fr en = resP 256 m id k n fr en ∧ resM 256 (m.filter (ofG k)) id k n fr en = (resM 256 m id k n fr en).filter (ofG k) := by
  have hlat : lat (m.filter (ofG k)) k n en = lat m k n en := lat_filter k n (en - n) (ofG k) (fun s hs => by simpa [ofG] using hs) m
  have hid' : id ∉ (m.filter (ofG k)).map idK := fun h' => hid ((List.filter_sublist.map idK).subset h')
  have hl' : (m.filter (ofG k)).length ≤ m.length := List.length_filter_le _ _
  have hE : resE 256 (m.filter (ofG k)) id k n fr en = resE 256 m id k n fr en := by
    unfold resE
    rw [hlat, if_neg hid', if_neg hid, if_neg (show ¬ 256 ≤ (m.filter (ofG k)).length by omega), if_neg (show ¬ 256 ≤ m.length by omega)]
  refine ⟨hE, ?_, ?_⟩
  · unfold resP; rw [hE, hlat]
  · unfold resM
    rw [hE, hlat]
    split
    · rw [put_filter (s := (id, k, lat m k n en, lat m k n en + n)) hm hid, if_pos (by simp [ofG])]
    · rfl
theorem resM_ids {room : Nat} {m : List Ky} {i : Nat} {gr n fr en : Int} (h : ∀ s ∈ m, idK s < (i : Int)) : ∀ s ∈ resM room m (i : Int) gr n fr en, idK s < ((i + 1 : Nat) : Int) := by
  intro s hs
  unfold resM at hs
  split at hs
  · rcases mem_put.1 hs with rfl | hs
    · simp only [idK]; omega
    · have := h s hs; omega
  · have := h s hs; omega
namespace Groups
def GrpRel (w : World) (pa pb N : Nat) (K : Int) (i : Value) (W : World) : Prop :=
  ∃ (k : Nat) (m : List Ky) (ga gb : Option Nat), k ≤ N ∧ m.length ≤ k ∧ i = .int .i64 (k : Int) ∧ Two w pa ga m pb gb (m.filter (ofG K)) W ∧ ∀ s ∈ m, idK s < (k : Int)

set_option maxRecDepth 100000 in
set_option maxHeartbeats 8000000 in
theorem core (l : List Ac) (a : Option Addr) (cap : Nat) (d : Int) (w : World) (hm : l.length ≤ maxLen) (hr : ActsIn w a cap l) (hd : 0 ≤ d ∧ d < 256) : Calls Try.prog 7 #[.slice a l.length cap, .int .u8 d] w (Woke w) := by
  obtain ⟨d1, d2⟩ := hd
  have HR := Lib.hid hr
  unfold maxLen at hm
  clear hr
  have KN := Lib.hid (fun W (hb : Below w.heap.size w W) => has_new (w0 := w) (W := W) 256 hb (by omega) (by omega))
  go_enter Try.func7, Try.ntmps7
  go_wp2_with (fail)
  refine (awake _).mono ?_
  rintro e w1 ⟨rfl, hb1⟩
  have B1 := Lib.hid hb1
  clear hb1
  by_cases h40 : 40 < l.length
  · have t1 : decide ((40 : Int) < (l.length : Int)) = true := by simp; omega
    go_wp2_with (fail)
    refine (awake _).mono ?_
    rintro e w3 ⟨rfl, hb3⟩
    go_wp2
    go_ret
    exact ⟨rfl, B1.out.trans (hb3.mono B1.out.size)⟩
  have t1 : decide ((40 : Int) < (l.length : Int)) = false := by simp; omega
  have KF := Lib.hid (few l a l.length cap rfl (by omega) (HR.out.below (Nat.le_refl _) B1.out))
  by_cases hf : fewB l = true
  rotate_left
  · rw [show fewB l = false by simpa using hf] at KF
    go_wp2_with (fail)
    refine KF.out.mono ?_
    rintro e w2 ⟨rfl, q, rfl⟩
    have B2 := Lib.hid (below_drewN B1.out q)
    go_wp2_with (fail)
    refine (awake _).mono ?_
    rintro e w3 ⟨rfl, hb3⟩
    go_wp2
    go_ret
    exact ⟨rfl, B2.out.trans (hb3.mono B2.out.size)⟩
  rw [hf] at KF
  have HFW := Lib.hid hf
  clear hf
  go_wp2_with (fail)
  refine KF.out.mono ?_
  rintro e w2 ⟨rfl, q, rfl⟩
  have B2 := Lib.hid (below_drewN B1.out q)
  clear KF
  go_wp2_with (fail)
  obtain ⟨K, hK⟩ : ∃ K, K = d % 3 := ⟨_, rfl⟩
  rw [← hK]
  clear hK
  refine (KN.out _ B2.out).mono ?_
  rintro e w3 ⟨rfl, h2, hb3⟩
  have H2 := Lib.hid h2
  have hpw := (h2.tab.lt (.inl rfl)).2
  clear h2
  generalize (w1.drewN q).heap.size = pa at H2 hpw ⊢
  go_wp2_with (fail)
  refine (KN.out _ H2.out.below).mono ?_
  rintro e w4 ⟨rfl, h4, hb4⟩
  have H4 : Hid (Two w pa none [] w3.heap.size none [] w4) := ⟨H2.out.keep hb4, h4, by omega, by simp, by simp, fun k hk => by cases hk⟩
  clear h4 hb4 H2
  generalize w3.heap.size = pb at H4 hpw ⊢
  go_wp2
  go_loopw [10] (fun i W => GrpRel w pa pb l.length K i W) (fun i _ => l.length - (intOf i).toNat)
  case atStart => exact ⟨0, [], none, none, by omega, by simp, rfl, H4.out, fun s hs => by simp at hs⟩
  case round =>
    obtain ⟨k, m, ga, gb, hk, hmk, rfl, hh, hids⟩ := hrel
    have H5 := Lib.hid hh
    have HI := Lib.hid hids
    clear hh hids
    by_cases hlt : k < l.length
    · have t4 : decide ((k : Int) < (l.length : Int)) = true := by simp; omega
      have hx : l[k]? = some l[k] := List.getElem?_eq_getElem hlt
      obtain ⟨b, off, rfl, hbl, x0, x1, x2, x3, x4, x5⟩ := (HR.out.below (Nat.le_refl _) H5.out.a.below).cells hx
      clear hx
      generalize l[k] = x at x0 x1 x2 x3 x4 x5
      obtain ⟨y0, y1, y2, y3, y4, y5⟩ := x
      simp only at x0 x1 x2 x3 x4 x5
      have i1 : (0 : Int) ≤ (k : Int) := by omega
      obtain ⟨V, hV⟩ : ∃ V, V = wr.alloc (.cells #[.int .i64 y0, .int .i64 y1, .int .i64 y2, .int .i64 y3, .int .i64 y4, .int .i64 y5] 31) := ⟨_, rfl⟩
      have HLV : Hid (Lies V wr.heap.size 31 #[.int .i64 y0, .int .i64 y1, .int .i64 y2, .int .i64 y3, .int .i64 y4, .int .i64 y5]) := by rw [hV]; exact Lies.made _ _ _
      have H6 : Hid (Two w pa ga m pb gb (m.filter (ofG K)) V) := by rw [hV]; exact H5.out.keep (below_new _ _)
      have HVE := Lib.hid hV
      have hpa : pa < wr.heap.size := (H5.out.a.tab.lt (.inl rfl)).2
      have HGA := Lib.hid (fun q (hq : ga = some q) => (H5.out.a.tab.lt (.inr hq)).2)
      clear hV
      have KA := Lib.hid (H6.out.reserve (k : Int) y2 y3 y4 y5)
      have hnid : (k : Int) ∉ m.map idK := ids_none.1 fun s hs => by have := HI.out s hs; omega
      have HSR := Lib.hid H5.out.a.tab.good.srt
      have HOT := Lib.hid (fun h => grp_other (k := K) (id := (k : Int)) (gr := y2) (n := y3) (fr := y4) (en := y5) HSR.out hnid h)
      have HOW := Lib.hid (grp_own (k := K) (id := (k : Int)) (n := y3) (fr := y4) (en := y5) HSR.out hnid (by omega))
      have HID := Lib.hid (resM_ids (room := 256) (gr := y2) (n := y3) (fr := y4) (en := y5) HI.out)
      have HML := Lib.hid (resM_length 256 m (k : Int) y2 y3 y4 y5)
      clear hnid
      go_upto_region 12 with fail
      rw [← HVE.out]
      have z2 : V.cell? ⟨wr.heap.size, 2, none⟩ = some (.int .i64 y2) := HLV.out.cell 2
      have z3 : V.cell? ⟨wr.heap.size, 3, none⟩ = some (.int .i64 y3) := HLV.out.cell 3
      have z4 : V.cell? ⟨wr.heap.size, 4, none⟩ = some (.int .i64 y4) := HLV.out.cell 4
      have z5 : V.cell? ⟨wr.heap.size, 5, none⟩ = some (.int .i64 y5) := HLV.out.cell 5
      by_cases hg : y2 = K
      · subst hg
        have t5 : (y2 != y2) = false := by simp
        obtain ⟨o1, o2, o3⟩ := HOW.out
        have O3 := Lib.hid o3
        have KB : Hid (∀ ga' W, Two w pa ga' (resM 256 m (k : Int) y2 y3 y4 y5) pb gb (m.filter (ofG y2)) W → Calls Try.prog 12 #[.pointer (some ⟨pb, 0, none⟩), .int .i64 (k : Int), .int .i64 y2, .int .i64 y3, .int .i64 y4, .int .i64 y5] W
            (fun e W' => e = .returned (.tuple #[.int .i64 (resP 256 m (k : Int) y2 y3 y4 y5), .int .i64 (resE 256 m (k : Int) y2 y3 y4 y5)]) ∧ ∃ g', Two w pa ga' (resM 256 m (k : Int) y2 y3 y4 y5) pb g' ((resM 256 m (k : Int) y2 y3 y4 y5).filter (ofG y2)) W')) := fun ga' W h => by
          have := h.swap.reserve (k : Int) y2 y3 y4 y5
          rw [o1, o2, o3] at this
          exact this.mono fun e W' ⟨he, g', h', _⟩ => ⟨he, g', h'.swap⟩
        clear o1 o2 o3 O3 HOW HOT
        generalize resM 256 m (k : Int) y2 y3 y4 y5 = m2 at KA KB HID HML
        generalize resP 256 m (k : Int) y2 y3 y4 y5 = rp at KA KB
        generalize resE 256 m (k : Int) y2 y3 y4 y5 = re at KA KB
        go_wp2_with (fail)
        refine KA.out.mono ?_
        rintro e w6 ⟨rfl, g6, h6, ht6⟩
        have H7 := Lib.hid h6
        have HL7 := Lib.hid (HLV.out.turns ht6 (fun e => by
          rcases e with e | e
          · omega
          · have := HGA.out _ e; omega))
        clear h6 ht6 z2 z3 z4 z5
        have u2 : w6.cell? ⟨wr.heap.size, 2, none⟩ = some (.int .i64 y2) := HL7.out.cell 2
        have u3 : w6.cell? ⟨wr.heap.size, 3, none⟩ = some (.int .i64 y3) := HL7.out.cell 3
        have u4 : w6.cell? ⟨wr.heap.size, 4, none⟩ = some (.int .i64 y4) := HL7.out.cell 4
        have u5 : w6.cell? ⟨wr.heap.size, 5, none⟩ = some (.int .i64 y5) := HL7.out.cell 5
        go_wp2_with (fail)
        refine (KB.out _ _ H7.out).mono ?_
        rintro e w7 ⟨rfl, g7, h7⟩
        have H8 := Lib.hid h7
        clear h7 u2 u3 u4 u5
        go_wp2
        go_roundw
        case rel => exact ⟨k + 1, m2, g6, g7, by omega, by have := HML.out; omega, by go_num, H8.out, HID.out⟩
        case measure => simp [intOf]; omega
      · have t5 : (y2 != K) = true := by simpa using hg
        have HO := Lib.hid (HOT.out hg)
        clear HOW HOT hg
        generalize resM 256 m (k : Int) y2 y3 y4 y5 = m2 at KA HID HML HO
        generalize resP 256 m (k : Int) y2 y3 y4 y5 = rp at KA
        generalize resE 256 m (k : Int) y2 y3 y4 y5 = re at KA
        go_wp2_with (fail)
        refine KA.out.mono ?_
        rintro e w6 ⟨rfl, g6, h6, ht6⟩
        have H7 := Lib.hid h6
        have HL7 := Lib.hid (HLV.out.turns ht6 (fun e => by
          rcases e with e | e
          · omega
          · have := HGA.out _ e; omega))
        clear h6 ht6 z2 z3 z4 z5
        have u2 : w6.cell? ⟨wr.heap.size, 2, none⟩ = some (.int .i64 y2) := HL7.out.cell 2
        go_wp2
        go_roundw
        case rel => exact ⟨k + 1, m2, g6, gb, by omega, by have := HML.out; omega, by go_num, by rw [HO.out]; exact H7.out, HID.out⟩
        case measure => simp [intOf]; omega
    · have t4 : decide ((k : Int) < (l.length : Int)) = false := by simp; omega
      have t4' : decide (k < l.length) = false := by simp; omega
      have hle : (m.filter (ofG K)).length ≤ m.length := List.length_filter_le _ _
      have KAA : Hid (∀ W, Two w pa ga m pb gb (m.filter (ofG K)) W → Calls Try.prog 16 #[.pointer (some ⟨pa, 0, none⟩)] W (Rows1 m.length m W)) := fun W h => all_of h.a.tab
      have KBB : Hid (∀ W, Two w pa ga m pb gb (m.filter (ofG K)) W → Calls Try.prog 16 #[.pointer (some ⟨pb, 0, none⟩)] W (Rows1 (m.filter (ofG K)).length (m.filter (ofG K)) W)) := fun W h => all_of h.b.tab
      generalize (m.filter (ofG K)).length = nb at KBB hle
      generalize m.length = na at KAA hle hmk
      go_wp2_with (fail)
      with_reducible refine (KBB.out _ H5.out).mono ?_
      rintro e w6 ⟨A6, c6, rfl, hg6⟩
      have H6 := Lib.hid (H5.out.keep hg6.1)
      clear hg6
      go_wp2_with (fail)
      with_reducible refine (KAA.out _ H6.out).mono ?_
      rintro e w7 ⟨A7, c7, rfl, hg7⟩
      have H7 := Lib.hid (H6.out.keep hg7.1).a.below
      clear hg7
      have t6 : decide ((nb : Int) ≤ (na : Int)) = true := by simp; omega
      have t6' : decide (nb ≤ na) = true := by simp; omega
      go_wp2
      go_ret
      exact ⟨rfl, H7.out⟩
end Groups
end Go.Proofs.Ytojnkkkgkmgagaa
