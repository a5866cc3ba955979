/- Of no key none is popped. -/
import Derived.Test.YtblecehmbmbjiaaHq
namespace Go.Proofs.Ytblecehmbmbjiaa
open Go.RowKit

set_option maxRecDepth 100000 in
set_option maxHeartbeats 1000000 in
theorem pop_none {w : World} {p room : Nat} (h : Heap w p room []) : Calls Try.prog 14 #[.pointer (some ⟨p, 0, none⟩)] w (Tells (.tuple #[aggQ (0, 0, 0, 0), .bool false]) w) := by
  have KP := Lib.hid (peekAt (h.more (below_new w (.cells #[.int .i64 0, .int .i64 0, .int .i64 0, .int .i64 0] 31))))
  have HL := Lib.hid (Lies.made w 31 #[.int .i64 0, .int .i64 0, .int .i64 0, .int .i64 0])
  have HB := Lib.hid (below_new w (.cells #[.int .i64 0, .int .i64 0, .int .i64 0, .int .i64 0] 31))
  clear h
  simp only [hdK, aggQ, List.head?_nil, Option.getD_none, List.length_nil] at KP
  have HD := Lib.hid (show decide (0 < 0) = false by decide)
  rw [HD.out] at KP
  simp only [aggQ]
  go_enter Try.func14, Try.ntmps14
  go_wp2_with (fail)
  with_reducible refine KP.out.mono ?_
  rintro e w1 ⟨rfl, hb1⟩
  have HL1 := Lib.hid (HL.out.below hb1 HL.out.lt)
  have HB1 := Lib.hid (HB.out.trans (hb1.mono HB.out.size))
  clear hb1
  have y0 : w1.cell? ⟨w.heap.size, 0, none⟩ = some (.int .i64 0) := HL1.out.cell 0
  have y1 : w1.cell? ⟨w.heap.size, 1, none⟩ = some (.int .i64 0) := HL1.out.cell 1
  have y2 : w1.cell? ⟨w.heap.size, 2, none⟩ = some (.int .i64 0) := HL1.out.cell 2
  have y3 : w1.cell? ⟨w.heap.size, 3, none⟩ = some (.int .i64 0) := HL1.out.cell 3
  have hlt := HL1.out.lt
  have cf := HL1.out.thawed
  have HX : Hid (∀ (v0 v1 v2 v3 : Value) (o : Obj), Lies (((((w1.setCell ⟨w.heap.size, 0, none⟩ v0).setCell ⟨w.heap.size, 1, none⟩ v1).setCell ⟨w.heap.size, 2, none⟩ v2).setCell ⟨w.heap.size, 3, none⟩ v3).alloc o) w.heap.size 31 #[v0, v1, v2, v3]) := fun v0 v1 v2 v3 o => (((((HL1.out.here 0 v0).here 1 v1).here 2 v2).here 3 v3).alloc o)
  have HY : Hid (∀ (v0 v1 v2 v3 : Value) (o : Obj), Below w.heap.size w (((((w1.setCell ⟨w.heap.size, 0, none⟩ v0).setCell ⟨w.heap.size, 1, none⟩ v1).setCell ⟨w.heap.size, 2, none⟩ v2).setCell ⟨w.heap.size, 3, none⟩ v3).alloc o)) := fun v0 v1 v2 v3 o => ((((HB1.out.setCell (p := ⟨w.heap.size, 0, none⟩) (Nat.le_refl _) _).setCell (p := ⟨w.heap.size, 1, none⟩) (Nat.le_refl _) _).setCell (p := ⟨w.heap.size, 2, none⟩) (Nat.le_refl _) _).setCell (p := ⟨w.heap.size, 3, none⟩) (Nat.le_refl _) _).alloc (by simpa [World.setCell] using HB1.out.size) _
  go_wp2
  (try simp only [Exit.inBlock, Exit.then])
  refine bodyPost_ret (results_pair rfl _ _ w.heap.size _ _ rfl rfl (HX.out _ _ _ _ _) rfl) rfl ?_
  exact ⟨rfl, HY.out _ _ _ _ _⟩


theorem tup_bool {a b : Bool} {x : Value} (h : a = b) : Value.tuple #[x, .bool a] = .tuple #[x, .bool b] := by rw [h]

set_option maxRecDepth 100000 in
set_option maxHeartbeats 1000000 in
theorem remove_no {w : World} {p room : Nat} {m : List Ky} (id : Int) (h : Heap w p room m) (hid : id ∉ m.map idK) : Calls Try.prog 15 #[.pointer (some ⟨p, 0, none⟩), .int .i64 id] w (Says (.bool false) w) := by
  obtain ⟨l, h1, h2, h3⟩ := h.body
  have KF := Lib.hid (findId l id h2)
  have HN := Lib.hid ((ids_perm h1 id).2 hid)
  clear h h1 h2 h3 hid
  go_enter Try.func15, Try.ntmps15
  go_wp2_with (fail)
  with_reducible refine KF.out.mono ?_
  rintro e w1 ⟨rfl, ho⟩
  rcases ho with ⟨q, k, hq, hk, rfl⟩ | ⟨_, rfl⟩
  · exact absurd hk (HN.out k (List.mem_of_getElem? hq))
  · go_wp2
    go_ret
    exact ⟨rfl, rfl⟩

set_option maxRecDepth 100000 in
set_option maxHeartbeats 1000000 in
theorem remove_yes {w : World} {p room q : Nat} {m : List Ky} {b : Ky} (id : Int) (h : Heap w p room m) (hq : m[q]? = some b) (hid : idK b = id) :
    Calls Try.prog 15 #[.pointer (some ⟨p, 0, none⟩), .int .i64 id] w (Acts (.bool true) p room (m.eraseIdx q) w) := by
  obtain ⟨l, h1, h2, h3⟩ := h.body
  have KF := Lib.hid (findId l id h2)
  have HA := Lib.hid h
  have HQ := Lib.hid hq
  have HI := Lib.hid hid
  have HPM := Lib.hid h1
  have HPL := Lib.hid h2
  have HHP := Lib.hid h3
  clear h h1 h2 h3 hid hq
  go_enter Try.func15, Try.ntmps15
  go_wp2_with (fail)
  with_reducible refine KF.out.mono ?_
  rintro e w1 ⟨rfl, ho⟩
  rcases ho with ⟨i, k, hi, hk, rfl⟩ | ⟨hno, _⟩
  · have hil := (List.getElem?_eq_some_iff.1 hi).1
    obtain ⟨n, hn⟩ : ∃ n, l.length = n + 1 := ⟨l.length - 1, by omega⟩
    have HLN := Lib.hid hn
    have HDR := Lib.hid (dropAt (l := l) (i := i) (m := n) (p := p) (room := room) (w := w1) (by rw [← hn]; exact HPL.out) hn (by omega) (by rw [← hn]; exact HHP.out))
    rw [kf_at hi, key_of HPM.out HA.out.good hi HQ.out (hk.trans HI.out.symm)] at HDR
    clear hi hk hn hil
    go_wp2_with (fail)
    with_reducible refine HDR.out.mono ?_
    rintro e w3 ⟨l3, rfl, hn3, hp3, hl3, ht3, hh3⟩
    have HF : Hid (Heap w3 p room (m.eraseIdx q)) := ⟨HA.out.r1, HA.out.r2, Nat.le_trans (List.eraseIdx_sublist _ _).length_le HA.out.len, HA.out.good.without q, l3, List.Perm.cons_inv (hp3.trans (HPM.out.trans (erase_perm HQ.out))), by rw [hn3]; exact hl3, by rw [hn3]; exact hh3⟩
    have HT := Lib.hid ht3
    clear hn3 hp3 hl3 ht3 hh3
    go_wp2
    go_ret
    exact ⟨rfl, HF.out, HT.out⟩
  · exact absurd (List.mem_map.2 ⟨_, List.mem_of_getElem? HQ.out, HI.out⟩) ((ids_perm HPM.out id).1 hno)
end Go.Proofs.Ytblecehmbmbjiaa
