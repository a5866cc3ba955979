/- A key is pushed, or changed. -/
import Derived.Test.YtblecehmbmbjiaaPn
namespace Go.Proofs.Ytblecehmbmbjiaa
open Go.RowKit

theorem ex_set {l : List Ky} {i : Nat} (k : Ky) (h : Hp l.length (kf l)) : Ex (l.set i k).length (kf (l.set i k)) i := by
  have far : ∀ j, j ≠ i → kf (l.set i k) j = kf l j := fun j hj => by unfold kf; rw [List.getElem?_set_ne (Ne.symm hj)]
  constructor
  · intro j h0 hj hji hju
    rw [far j hji, far _ hju]
    exact h j h0 (by simpa using hj)
  · intro j hi0 h0 hj hu
    have h1 := up1_lt h0
    have h2 := up1_lt hi0
    rw [far j (by omega), far _ (by omega)]
    exact (h.dns i).2 j hi0 h0 (by simpa using hj) hu
theorem ex_snoc {l : List Ky} (k : Ky) (h : Hp l.length (kf l)) : Ex (l ++ [k]).length (kf (l ++ [k])) l.length := by
  have far : ∀ j, j < l.length → kf (l ++ [k]) j = kf l j := fun j hj => by unfold kf; rw [List.getElem?_append_left hj]
  constructor
  · intro j h0 hj hji _
    have h1 := up1_lt h0
    simp at hj
    rw [far j (by omega), far _ (by omega)]
    exact h j h0 (by omega)
  · intro j _ h0 hj hu
    have h1 := up1_lt h0
    simp at hj
    omega
theorem dns_last {l : List Ky} {n : Nat} (hl : l.length = n + 1) (h : Dns l.length (kf l) n) : Hp l.length (kf l) := h.hp fun j h0 hj hu => by
  have := up1_lt h0
  omega

set_option maxRecDepth 100000 in
set_option maxHeartbeats 1000000 in
theorem change_no {w : World} {p room : Nat} {m : List Ky} (k : Ky) (h : Heap w p room m) (hid : idK k ∉ m.map idK) : Calls Try.prog 17 #[.pointer (some ⟨p, 0, none⟩), aggQ k] w (Tells (.bool false) w) := by
  obtain ⟨k0, k1, k2, k3⟩ := k
  have hid' : k3 ∉ m.map idK := hid
  simp only [aggQ]
  obtain ⟨l, h1, h2, h3⟩ := (h.more (below_new w (.cells #[.int .i64 k0, .int .i64 k1, .int .i64 k2, .int .i64 k3] 31))).body
  have KF := Lib.hid (findId l k3 h2)
  have HN := Lib.hid ((ids_perm h1 k3).2 hid')
  have HB := Lib.hid (below_new w (.cells #[.int .i64 k0, .int .i64 k1, .int .i64 k2, .int .i64 k3] 31))
  clear h h1 h2 h3 hid hid'
  go_enter Try.func17, Try.ntmps17
  go_wp2_with (fail)
  with_reducible refine KF.out.mono ?_
  rintro e w1 ⟨rfl, ho⟩
  rcases ho with ⟨q, k, hq, hk, rfl⟩ | ⟨_, rfl⟩
  · exact absurd hk (HN.out k (List.mem_of_getElem? hq))
  · go_wp2
    go_ret
    exact ⟨rfl, HB.out⟩

set_option maxRecDepth 100000 in
set_option maxHeartbeats 2000000 in
theorem change_yes {w : World} {p room q : Nat} {m : List Ky} {b : Ky} (k : Ky) (h : Heap w p room m) (hq : m[q]? = some b) (hid : idK b = idK k) :
    Calls Try.prog 17 #[.pointer (some ⟨p, 0, none⟩), aggQ k] w (Acts (.bool true) p room (putK (m.eraseIdx q) k) w) := by
  have HA := Lib.hid h
  have HG : Hid (Good (putK (m.eraseIdx q) k)) := (h.good.without q).put (by rw [← hid]; exact h.good.erase_id hq)
  have HLE := Lib.hid (show (putK (m.eraseIdx q) k).length ≤ room by
    have e1 : m.length = (m.eraseIdx q).length + 1 := (erase_perm hq).length_eq
    have e2 := h.len
    rw [length_put]
    omega)
  obtain ⟨k0, k1, k2, k3⟩ := k
  have HI := Lib.hid (show idK b = k3 from hid)
  have HQ := Lib.hid hq
  simp only [aggQ]
  obtain ⟨l, h1, h2, h3⟩ := (h.more (below_new w (.cells #[.int .i64 k0, .int .i64 k1, .int .i64 k2, .int .i64 k3] 31))).body
  have KF := Lib.hid (findId l k3 h2)
  have HPM := Lib.hid h1
  have HPL := Lib.hid h2
  have HHP := Lib.hid h3
  have HB := Lib.hid (below_new w (.cells #[.int .i64 k0, .int .i64 k1, .int .i64 k2, .int .i64 k3] 31))
  have HL := Lib.hid (Lies.made w 31 #[.int .i64 k0, .int .i64 k1, .int .i64 k2, .int .i64 k3])
  have hpw := h.lt
  clear h h1 h2 h3 hid hq
  go_enter Try.func17, Try.ntmps17
  go_wp2_with (fail)
  with_reducible refine KF.out.mono ?_
  rintro e w1 ⟨rfl, ho⟩
  rcases ho with ⟨i, kk, hi, hk, rfl⟩ | ⟨hno, _⟩
  · generalize w.alloc (.cells #[.int .i64 k0, .int .i64 k1, .int .i64 k2, .int .i64 k3] 31) = X at HPL HB HL ⊢
    clear KF
    have hil := (List.getElem?_eq_some_iff.1 hi).1
    have hl := HPL.out.len
    obtain ⟨y0, y1, y2, y3⟩ := HPL.out.cells hi
    have HST := Lib.hid (set_perm (k0, k1, k2, k3) hi)
    have HKK := Lib.hid (key_of HPM.out HA.out.good hi HQ.out (hk.trans HI.out.symm))
    clear hi hk
    have x0 : X.cell? ⟨w.heap.size, 0, none⟩ = some (.int .i64 k0) := HL.out.cell 0
    have x1 : X.cell? ⟨w.heap.size, 1, none⟩ = some (.int .i64 k1) := HL.out.cell 1
    have x2 : X.cell? ⟨w.heap.size, 2, none⟩ = some (.int .i64 k2) := HL.out.cell 2
    have x3 : X.cell? ⟨w.heap.size, 3, none⟩ = some (.int .i64 k3) := HL.out.cell 3
    have cf := HPL.out.thawed
    have hpl := HPL.out.lt
    have i1 : (0 : Int) ≤ (i : Int) := by omega
    have i2 : (i : Int) < 1024 := by omega
    have hne : ¬ w.heap.size = p := by omega
    have HP2 := Lib.hid ((HPL.out.set (k0, k1, k2, k3) hil).drewN 1)
    have HT2 := Lib.hid ((turns_setCells (S := fun k => k = p) (g := p) rfl (cellsQ (k0, k1, k2, k3)) (2 + i * 4) _ (Below.turn p HB.out)).drewN 1)
    go_wp2
    go_region
    have HP3 : Hid (Pl ((((X.setCell ⟨p, 2 + i * 4, none⟩ (.int .i64 k0)).setCell ⟨p, 2 + i * 4 + 1, none⟩ (.int .i64 k1)).setCell ⟨p, 2 + i * 4 + 2, none⟩ (.int .i64 k2)).setCell ⟨p, 2 + i * 4 + 3, none⟩ (.int .i64 k3)).drew p room l.length (l.set i (k0, k1, k2, k3))) := HP2.out
    have HT3 : Hid (Turns (fun k => k = p) w ((((X.setCell ⟨p, 2 + i * 4, none⟩ (.int .i64 k0)).setCell ⟨p, 2 + i * 4 + 1, none⟩ (.int .i64 k1)).setCell ⟨p, 2 + i * 4 + 2, none⟩ (.int .i64 k2)).setCell ⟨p, 2 + i * 4 + 3, none⟩ (.int .i64 k3)).drew) := HT2.out
    generalize ((((X.setCell ⟨p, 2 + i * 4, none⟩ (.int .i64 k0)).setCell ⟨p, 2 + i * 4 + 1, none⟩ (.int .i64 k1)).setCell ⟨p, 2 + i * 4 + 2, none⟩ (.int .i64 k2)).setCell ⟨p, 2 + i * 4 + 3, none⟩ (.int .i64 k3)).drew = Y at HP3 HT3 ⊢
    clear x0 x1 x2 x3 y0 y1 y2 y3 cf hpl HP2 HT2
    have HS := Lib.hid (settleAt (l := l.set i (k0, k1, k2, k3)) (i := i) (p := p) (room := room) (w := Y) (by rw [List.length_set]; exact HP3.out) (by rw [List.length_set]; exact hil) (ex_set _ HHP.out))
    go_wp2_with (fail)
    with_reducible refine HS.out.mono ?_
    rintro e w2 ⟨l2, rfl, hp2, hl2, ht2, hh2⟩
    have HF : Hid (Heap w2 p room (putK (m.eraseIdx q) (k0, k1, k2, k3))) := by
      refine ⟨HA.out.r1, HA.out.r2, HLE.out, HG.out, l2, ?_, by rw [hp2.length_eq]; exact hl2, by rw [hp2.length_eq]; exact hh2⟩
      refine hp2.trans (List.Perm.trans ?_ (put_perm _ _).symm)
      have e1 := HST.out
      rw [HKK.out] at e1
      refine List.Perm.cons_inv (a := b) (e1.trans ?_)
      exact (((HPM.out.trans (erase_perm HQ.out))).cons _).trans (List.Perm.swap _ _ _)
    have HT4 := Lib.hid (turns_same HT3.out ht2)
    clear hp2 hl2 ht2 hh2
    go_wp2
    go_ret
    exact ⟨rfl, HF.out, HT4.out⟩
  · exact absurd (List.mem_map.2 ⟨_, List.mem_of_getElem? HQ.out, HI.out⟩) ((ids_perm HPM.out k3).1 hno)

set_option maxRecDepth 100000 in
set_option maxHeartbeats 1000000 in
theorem push_twice {w : World} {p room : Nat} {m : List Ky} (k : Ky) (h : Heap w p room m) (hid : idK k ∈ m.map idK) : Calls Try.prog 13 #[.pointer (some ⟨p, 0, none⟩), aggQ k] w (Tells (.int .i64 7) w) := by
  obtain ⟨k0, k1, k2, k3⟩ := k
  have hid' : k3 ∈ m.map idK := hid
  simp only [aggQ]
  obtain ⟨l, h1, h2, h3⟩ := (h.more (below_new w (.cells #[.int .i64 k0, .int .i64 k1, .int .i64 k2, .int .i64 k3] 31))).body
  have KF := Lib.hid (findId l k3 h2)
  have HN := Lib.hid (show ¬ ∀ x ∈ l, idK x ≠ k3 from fun h' => (ids_perm h1 k3).1 h' hid')
  have HB := Lib.hid (below_new w (.cells #[.int .i64 k0, .int .i64 k1, .int .i64 k2, .int .i64 k3] 31))
  clear h h1 h2 h3 hid hid'
  go_enter Try.func13, Try.ntmps13
  go_wp2_with (fail)
  with_reducible refine KF.out.mono ?_
  rintro e w1 ⟨rfl, ho⟩
  rcases ho with ⟨q, k, hq, hk, rfl⟩ | ⟨hno, _⟩
  · clear hq hk
    go_wp2
    go_ret
    exact ⟨rfl, HB.out⟩
  · exact absurd hno HN.out

set_option maxRecDepth 100000 in
set_option maxHeartbeats 1000000 in
theorem push_full {w : World} {p room : Nat} {m : List Ky} (k : Ky) (h : Heap w p room m) (hid : idK k ∉ m.map idK) (hf : m.length = room) : Calls Try.prog 13 #[.pointer (some ⟨p, 0, none⟩), aggQ k] w (Tells (.int .i64 3) w) := by
  obtain ⟨k0, k1, k2, k3⟩ := k
  have hid' : k3 ∉ m.map idK := hid
  simp only [aggQ]
  obtain ⟨l, h1, h2, h3⟩ := (h.more (below_new w (.cells #[.int .i64 k0, .int .i64 k1, .int .i64 k2, .int .i64 k3] 31))).body
  have KF := Lib.hid (findId l k3 h2)
  have HN := Lib.hid ((ids_perm h1 k3).2 hid')
  have HB := Lib.hid (below_new w (.cells #[.int .i64 k0, .int .i64 k1, .int .i64 k2, .int .i64 k3] 31))
  have c0 := h2.room_
  have c1 := h2.taken_
  have hpl := h2.lt
  rw [h1.length_eq, hf] at c1
  clear h h1 h2 h3 hid hid' hf
  go_enter Try.func13, Try.ntmps13
  go_wp2_with (fail)
  with_reducible refine KF.out.mono ?_
  rintro e w1 ⟨rfl, ho⟩
  rcases ho with ⟨q, k, hq, hk, rfl⟩ | ⟨_, rfl⟩
  · exact absurd hk (HN.out k (List.mem_of_getElem? hq))
  · clear KF
    generalize w.alloc (.cells #[.int .i64 k0, .int .i64 k1, .int .i64 k2, .int .i64 k3] 31) = X at HB c0 c1 hpl ⊢
    go_wp2
    go_quiet (fail)
    go_wp2
    go_ret
    exact ⟨rfl, below_drewN HB.out _⟩

set_option maxRecDepth 100000 in
set_option maxHeartbeats 2000000 in
theorem push_new {w : World} {p room : Nat} {m : List Ky} (k : Ky) (h : Heap w p room m) (hid : idK k ∉ m.map idK) (hf : m.length < room) :
    Calls Try.prog 13 #[.pointer (some ⟨p, 0, none⟩), aggQ k] w (Acts (.int .i64 0) p room (putK m k) w) := by
  have HA := Lib.hid h
  have HG : Hid (Good (putK m k)) := h.good.put hid
  have HLE := Lib.hid (show (putK m k).length ≤ room by rw [length_put]; omega)
  have hr2 := h.r2
  obtain ⟨k0, k1, k2, k3⟩ := k
  have hid' : k3 ∉ m.map idK := hid
  simp only [aggQ]
  obtain ⟨l, h1, h2, h3⟩ := (h.more (below_new w (.cells #[.int .i64 k0, .int .i64 k1, .int .i64 k2, .int .i64 k3] 31))).body
  have KF := Lib.hid (findId l k3 h2)
  have HN := Lib.hid ((ids_perm h1 k3).2 hid')
  have HB := Lib.hid (below_new w (.cells #[.int .i64 k0, .int .i64 k1, .int .i64 k2, .int .i64 k3] 31))
  have HL := Lib.hid (Lies.made w 31 #[.int .i64 k0, .int .i64 k1, .int .i64 k2, .int .i64 k3])
  have hln : l.length < room := by rw [h1.length_eq]; exact hf
  have HPM := Lib.hid h1
  have HPL := Lib.hid h2
  have HHP := Lib.hid h3
  have hpw := h.lt
  clear h h1 h2 h3 hid hid' hf
  go_enter Try.func13, Try.ntmps13
  go_wp2_with (fail)
  with_reducible refine KF.out.mono ?_
  rintro e w1 ⟨rfl, ho⟩
  rcases ho with ⟨q, k, hq, hk, rfl⟩ | ⟨_, rfl⟩
  · exact absurd hk (HN.out k (List.mem_of_getElem? hq))
  · clear KF
    generalize w.alloc (.cells #[.int .i64 k0, .int .i64 k1, .int .i64 k2, .int .i64 k3] 31) = X at HB HL HPL ⊢
    have c0 := HPL.out.room_
    have c1 := HPL.out.taken_
    have hpl := HPL.out.lt
    have t1 : ((l.length : Int) == (room : Int)) = false := by rw [beq_eq_false_iff_ne]; omega
    go_wp2
    go_quiet (fail)
    go_wp2
    clear c0 c1 hpl
    have HP1 := Lib.hid (HPL.out.drewN nq)
    have HL1 := Lib.hid (HL.out.drewN nq)
    have HB1 := Lib.hid (below_drewN HB.out nq)
    generalize X.drewN nq = Y at HP1 HL1 HB1 ⊢
    have x0 : Y.cell? ⟨w.heap.size, 0, none⟩ = some (.int .i64 k0) := HL1.out.cell 0
    have x1 : Y.cell? ⟨w.heap.size, 1, none⟩ = some (.int .i64 k1) := HL1.out.cell 1
    have x2 : Y.cell? ⟨w.heap.size, 2, none⟩ = some (.int .i64 k2) := HL1.out.cell 2
    have x3 : Y.cell? ⟨w.heap.size, 3, none⟩ = some (.int .i64 k3) := HL1.out.cell 3
    have c1 := HP1.out.taken_
    have cf := HP1.out.thawed
    have hpl := HP1.out.lt
    have hne : ¬ w.heap.size = p := by omega
    obtain ⟨n, hn⟩ : ∃ n, n = l.length := ⟨_, rfl⟩
    have HNN := Lib.hid hn
    rw [← hn] at hln t1 c1 ⊢
    clear hn
    have hn4 : n < 1024 := by omega
    obtain ⟨u0, u1, u2, u3, z0, z1, z2, z3⟩ := HP1.out.any hn4
    have n1 : (0 : Int) ≤ (n : Int) := by omega
    have n2 : (n : Int) < 1024 := by omega
    have HP2 := Lib.hid (HP1.out.next (k0, k1, k2, k3) (by rw [← HNN.out]; exact hn4))
    rw [← HNN.out] at HP2
    have HT2 := Lib.hid (turns_setCells (S := fun k => k = p) (g := p) rfl (cellsQ (k0, k1, k2, k3)) (2 + n * 4) _ (Below.turn p HB1.out))
    go_region
    have HP3 : Hid (Pl ((((Y.setCell ⟨p, 2 + n * 4, none⟩ (.int .i64 k0)).setCell ⟨p, 2 + n * 4 + 1, none⟩ (.int .i64 k1)).setCell ⟨p, 2 + n * 4 + 2, none⟩ (.int .i64 k2)).setCell ⟨p, 2 + n * 4 + 3, none⟩ (.int .i64 k3)).drew p room n (l ++ [(k0, k1, k2, k3)])) := HP2.out.drewN 1
    have HT3 : Hid (Turns (fun k => k = p) w ((((Y.setCell ⟨p, 2 + n * 4, none⟩ (.int .i64 k0)).setCell ⟨p, 2 + n * 4 + 1, none⟩ (.int .i64 k1)).setCell ⟨p, 2 + n * 4 + 2, none⟩ (.int .i64 k2)).setCell ⟨p, 2 + n * 4 + 3, none⟩ (.int .i64 k3)).drew) := HT2.out.drewN 1
    generalize ((((Y.setCell ⟨p, 2 + n * 4, none⟩ (.int .i64 k0)).setCell ⟨p, 2 + n * 4 + 1, none⟩ (.int .i64 k1)).setCell ⟨p, 2 + n * 4 + 2, none⟩ (.int .i64 k2)).setCell ⟨p, 2 + n * 4 + 3, none⟩ (.int .i64 k3)).drew = Z at HP3 HT3 ⊢
    clear x0 x1 x2 x3 z0 z1 z2 z3 c1 cf hpl HP2 HT2 hne
    have c1 := HP3.out.taken_
    have cf := HP3.out.thawed 1
    have hpl := HP3.out.lt
    have HP4 := Lib.hid (show Pl (Z.setCell ⟨p, 1, none⟩ (.int .i64 ((n : Int) + 1))) p room (n + 1) (l ++ [(k0, k1, k2, k3)]) from HP3.out.count (n + 1))
    have HT4 := Lib.hid (HT3.out.setCell (a := ⟨p, 1, none⟩) (.inr rfl) (.int .i64 ((n : Int) + 1)))
    have HU := Lib.hid (goUp (i := n) HP4.out (by simp [HNN.out]) (by have := ex_snoc (k0, k1, k2, k3) HHP.out; rw [← HNN.out] at this; exact this))
    go_wp2_with (fail)
    with_reducible refine HU.out.mono ?_
    rintro e w2 ⟨l2, rfl, hp2, hl2, ht2, hd2⟩
    have hln2 : l2.length = n + 1 := by rw [hp2.length_eq]; simp [HNN.out]
    rw [← hp2.length_eq] at hd2
    have HF : Hid (Heap w2 p room (putK m (k0, k1, k2, k3))) := ⟨HA.out.r1, HA.out.r2, HLE.out, HG.out, l2, hp2.trans (((List.perm_append_singleton _ _).trans (HPM.out.cons _)).trans (put_perm _ _).symm), by rw [hln2]; exact hl2, dns_last hln2 hd2⟩
    have HT5 := Lib.hid (turns_same HT4.out ht2)
    clear hp2 hl2 ht2 hd2 hln2
    go_wp2
    go_ret
    exact ⟨rfl, HF.out, HT5.out⟩
end Go.Proofs.Ytblecehmbmbjiaa
