/- A heap in memory, told by its keys in order; each call on it. -/
import Derived.Test.YtblecehmbmbjiaaDr
namespace Go.Proofs.Ytblecehmbmbjiaa
open Go.RowKit

/-- At p: a heap with room for so many keys; in order they are m. -/
structure Heap (w : World) (p room : Nat) (m : List Ky) : Prop where
  r1 : 1 ≤ room
  r2 : room ≤ 1024
  len : m.length ≤ room
  good : Good m
  body : ∃ l : List Ky, l.Perm m ∧ Pl w p room l.length l ∧ Hp l.length (kf l)
section
variable {w w' : World} {p room B : Nat} {m : List Ky}
theorem Heap.lt (h : Heap w p room m) : p < w.heap.size := let ⟨_, _, h2, _⟩ := h.body; h2.lt
theorem Heap.same (h : Heap w p room m) (he : w'.heap[p]? = w.heap[p]?) : Heap w' p room m :=
  let ⟨l, h1, h2, h3⟩ := h.body
  ⟨h.r1, h.r2, h.len, h.good, l, h1, h2.same he, h3⟩
theorem Heap.below (h : Heap w p room m) (hb : Below B w w') (hB : p < B) : Heap w' p room m := h.same (hb.block p hB)
theorem Heap.more (h : Heap w p room m) (hb : Below w.heap.size w w') : Heap w' p room m := h.below hb h.lt
theorem Heap.turns {S : Nat → Prop} (h : Heap w p room m) (ht : Turns S w w') (hS : ¬ S p) : Heap w' p room m := h.same (ht.block p h.lt hS)
theorem Heap.drewN (h : Heap w p room m) (n : Nat) : Heap (w.drewN n) p room m := h.same rfl
theorem Heap.eq {n : List Ky} (h : Heap w p room m) (e : m = n) : Heap w p room n := e ▸ h
end
theorem ids_perm {l m : List Ky} (h : l.Perm m) (i : Int) : (∀ x ∈ l, idK x ≠ i) ↔ i ∉ m.map idK := by
  constructor
  · intro h1 h2
    obtain ⟨x, hx, rfl⟩ := List.mem_map.1 h2
    exact h1 x (h.mem_iff.2 hx) rfl
  · intro h1 x hx e
    exact h1 (List.mem_map.2 ⟨x, h.mem_iff.1 hx, e⟩)
/-- The key of an Id, in the list and in order. -/
theorem key_of {l m : List Ky} (h : l.Perm m) (hg : Good m) {i q : Nat} {a b : Ky} (ha : l[i]? = some a) (hb : m[q]? = some b) (hid : idK a = idK b) : a = b := by
  have h1 : a ∈ m := h.mem_iff.1 (List.mem_of_getElem? ha)
  obtain ⟨j, hj⟩ := List.getElem?_of_mem h1
  have := hg.at_ hj hb hid
  subst this
  rw [hj] at hb
  cases hb; rfl
def hdK (m : List Ky) : Ky := m.head?.getD (0, 0, 0, 0)
theorem root_hd {l m : List Ky} (h : l.Perm m) (hg : Good m) (hh : Hp l.length (kf l)) (h0 : 0 < l.length) : kf l 0 = hdK m := by
  cases m with
  | nil => rw [h.length_eq] at h0; simp at h0
  | cons x m =>
    have hx : x ∈ l := h.mem_iff.2 List.mem_cons_self
    obtain ⟨j, hj⟩ := List.getElem?_of_mem hx
    have h1 := hh.root j (List.getElem?_eq_some_iff.1 hj).1
    rw [kf_at hj] at h1
    have h2 : kf l 0 ∈ x :: m := h.mem_iff.1 (List.mem_of_getElem? (kf_lt h0))
    show kf l 0 = x
    rcases List.mem_cons.1 h2 with h2 | h2
    · exact h2
    · exact absurd ((List.pairwise_cons.1 hg.srt).1 _ h2) h1

/-- It answers v; the heap's keys are m now; nothing else has turned. -/
def Acts (v : Value) (p room : Nat) (m : List Ky) (w : World) (e : Ending) (w' : World) : Prop := e = .returned v ∧ Heap w' p room m ∧ Turns (fun k => k = p) w w'

set_option maxHeartbeats 400000 in
theorem lenOf {w : World} {p room : Nat} {m : List Ky} (h : Heap w p room m) : Calls Try.prog 19 #[.pointer (some ⟨p, 0, none⟩)] w (Says (.int .i64 (m.length : Int)) w) := by
  obtain ⟨l, h1, h2, h3⟩ := h.body
  have ct := h2.taken_
  rw [h1.length_eq] at ct
  have hpl := h2.lt
  clear h h1 h2 h3
  go_enter Try.func19, Try.ntmps19
  go_wp2
  go_ret
  exact ⟨rfl, rfl⟩

theorem results_pair {fn : Func} (h : fn.results = #[.cell 2 31, .tmp 3]) (tmps : Array Value) (w : World) (g : Nat) (cs : Array Value) (v : Value) (hp : tmps.getD 2 undef = .pointer (some ⟨g, 0, none⟩)) (hv : tmps.getD 3 undef = v) (hL : Lies w g 31 cs) (hs : cs.size = 4) :
    (results fn tmps).run Try.prog w = .ok (.tuple #[.agg cs, v]) w := by
  have hp' : tmps[2]?.getD undef = .pointer (some ⟨g, 0, none⟩) := by simpa using hp
  have hv' : tmps[3]?.getD undef = v := by simpa using hv
  simp [results, h, hp', hv', asAddr, run_loadVar_row (P := Try.prog) w g 31 31 cs (0, 0) _ hL Try.underlying31 rfl (by rw [hs]; rfl)]
/-- The key's cells as an array. -/
def boxQ (k : Ky) : Array Value := #[.int .i64 k.1, .int .i64 k.2.1, .int .i64 k.2.2.1, .int .i64 k.2.2.2]

set_option maxRecDepth 100000 in
set_option maxHeartbeats 1000000 in
theorem peekAt {w : World} {p room : Nat} {m : List Ky} (h : Heap w p room m) : Calls Try.prog 18 #[.pointer (some ⟨p, 0, none⟩)] w (Tells (.tuple #[aggQ (hdK m), .bool (decide (0 < m.length))]) w) := by
  obtain ⟨l, h1, h2, h3⟩ := h.body
  have HLN := Lib.hid h1.length_eq
  have hN := Lib.hid (h2.below (Below.alloc (Below.refl w.heap.size w) (Nat.le_refl _) (.cells #[.int .i64 0, .int .i64 0, .int .i64 0, .int .i64 0] 31)) h2.lt)
  have ct := hN.out.taken_
  have hpl := h2.lt
  have HB := Lib.hid (Below.alloc (Below.refl w.heap.size w) (Nat.le_refl _) (.cells #[.int .i64 0, .int .i64 0, .int .i64 0, .int .i64 0] 31))
  have HL := Lib.hid (Lies.made w 31 #[.int .i64 0, .int .i64 0, .int .i64 0, .int .i64 0])
  have HPE := Lib.hid h1
  have HGO := Lib.hid h.good
  have HHP := Lib.hid h3
  by_cases h0 : 0 < l.length
  · have t1 : ((l.length : Int) == 0) = false := by rw [beq_eq_false_iff_ne]; omega
    have HR := Lib.hid (root_hd HPE.out HGO.out HHP.out h0)
    obtain ⟨x0, x1, x2, x3⟩ := hN.out.cells (kf_lt h0)
    have HD := Lib.hid (show decide (0 < m.length) = true by simp; rw [← HLN.out]; exact h0)
    rw [HR.out] at x0 x1 x2 x3
    simp only [aggQ]
    generalize hdK m = k at x0 x1 x2 x3
    rw [HD.out]
    obtain ⟨k0, k1, k2, k3⟩ := k
    simp only at x0 x1 x2 x3 ⊢
    clear h h1 h2 h3
    go_enter Try.func18, Try.ntmps18
    go_wp2
    (try simp only [Exit.inBlock, Exit.then])
    refine bodyPost_ret (results_pair rfl _ _ w.heap.size _ _ rfl rfl (Lies.made w 31 _) rfl) rfl ?_
    exact ⟨rfl, Below.alloc (Below.refl w.heap.size w) (Nat.le_refl _) _⟩
  · have e0 : l.length = 0 := by omega
    have e1 : m = [] := List.eq_nil_of_length_eq_zero (by rw [← HLN.out]; exact e0)
    subst e1
    rw [e0] at ct
    clear h h1 h2 h3
    go_enter Try.func18, Try.ntmps18
    go_wp2
    (try simp only [Exit.inBlock, Exit.then])
    refine bodyPost_ret (results_pair rfl _ _ w.heap.size _ _ rfl rfl HL.out rfl) rfl ?_
    exact ⟨rfl, HB.out⟩

theorem below_new (w : World) (o : Obj) : Below w.heap.size w (w.alloc o) := (Below.refl _ _).alloc (Nat.le_refl _) _
theorem Below.turn {w w' : World} (p : Nat) (h : Below w.heap.size w w') : Turns (fun k => k = p) w w' := Turns.of_below h

set_option maxRecDepth 100000 in
set_option maxHeartbeats 2000000 in
theorem pop_some {w : World} {p room : Nat} {k : Ky} {m : List Ky} (h : Heap w p room (k :: m)) : Calls Try.prog 14 #[.pointer (some ⟨p, 0, none⟩)] w (Acts (.tuple #[aggQ k, .bool true]) p room m w) := by
  have HA := Lib.hid h
  have HH1 := Lib.hid (h.more (below_new w (.cells #[.int .i64 0, .int .i64 0, .int .i64 0, .int .i64 0] 31)))
  have KP := Lib.hid (peekAt HH1.out)
  have HL := Lib.hid (Lies.made w 31 #[.int .i64 0, .int .i64 0, .int .i64 0, .int .i64 0])
  have HB := Lib.hid (below_new w (.cells #[.int .i64 0, .int .i64 0, .int .i64 0, .int .i64 0] 31))
  have hpw := h.lt
  clear h
  have HD := Lib.hid (show decide (0 < (k :: m).length) = true by simp)
  rw [HD.out] at KP
  have HK := Lib.hid (show hdK (k :: m) = k from rfl)
  rw [HK.out] at KP
  obtain ⟨k0, k1, k2, k3⟩ := k
  simp only [aggQ] at KP ⊢
  go_enter Try.func14, Try.ntmps14
  go_wp2_with (fail)
  with_reducible refine KP.out.mono ?_
  rintro e w1 ⟨rfl, hb1⟩
  have HL1 := Lib.hid (HL.out.below hb1 HL.out.lt)
  have HB1 := Lib.hid (HB.out.trans (hb1.mono HB.out.size))
  have HH2 := Lib.hid ((HH1.out.more hb1).more (below_new w1 (.cells #[.int .i64 k0, .int .i64 k1, .int .i64 k2, .int .i64 k3] 31)))
  have HL2 := Lib.hid (HL1.out.alloc (.cells #[.int .i64 k0, .int .i64 k1, .int .i64 k2, .int .i64 k3] 31))
  have HM2 := Lib.hid (Lies.made w1 31 #[.int .i64 k0, .int .i64 k1, .int .i64 k2, .int .i64 k3])
  have HB2 := Lib.hid (HB1.out.alloc HB1.out.size (.cells #[.int .i64 k0, .int .i64 k1, .int .i64 k2, .int .i64 k3] 31))
  clear hb1
  have hs1 : w.heap.size < w1.heap.size := HL1.out.lt
  obtain ⟨l, h1, h2, h3⟩ := HH2.out.body
  have HLN := Lib.hid (show l.length = m.length + 1 from h1.length_eq)
  have HDR := Lib.hid (show Calls Try.prog 26 #[.pointer (some ⟨p, 0, none⟩), .int .i64 0] (w1.alloc (.cells #[.int .i64 k0, .int .i64 k1, .int .i64 k2, .int .i64 k3] 31)) (Dropped l (kf l 0) m.length p room (w1.alloc (.cells #[.int .i64 k0, .int .i64 k1, .int .i64 k2, .int .i64 k3] 31))) from dropAt (l := l) (i := 0) (m := m.length) (p := p) (room := room) (by rw [← HLN.out]; exact h2) HLN.out (by omega) (by rw [← HLN.out]; exact h3))
  rw [root_hd h1 HH2.out.good h3 (by rw [HLN.out]; omega), HK.out] at HDR
  have HPM := Lib.hid h1
  clear h1 h2 h3
  go_wp2_with (fail)
  with_reducible refine HDR.out.mono ?_
  rintro e w3 ⟨l3, rfl, hn3, hp3, hl3, ht3, hh3⟩
  have HF : Hid (Heap w3 p room m) := ⟨HA.out.r1, HA.out.r2, Nat.le_of_succ_le HA.out.len, HA.out.good.tail, l3, List.Perm.cons_inv (hp3.trans HPM.out), by rw [hn3]; exact hl3, by rw [hn3]; exact hh3⟩
  have HL3 := Lib.hid (HL2.out.turns ht3 (by omega))
  have HM3 := Lib.hid (HM2.out.turns ht3 (by omega))
  have HT3 := Lib.hid (turns_same (Below.turn p HB2.out) ht3)
  clear hn3 hp3 hl3 ht3 hh3
  have z0 : w3.cell? ⟨w1.heap.size, 0, none⟩ = some (.int .i64 k0) := HM3.out.cell 0
  have z1 : w3.cell? ⟨w1.heap.size, 1, none⟩ = some (.int .i64 k1) := HM3.out.cell 1
  have z2 : w3.cell? ⟨w1.heap.size, 2, none⟩ = some (.int .i64 k2) := HM3.out.cell 2
  have z3 : w3.cell? ⟨w1.heap.size, 3, none⟩ = some (.int .i64 k3) := HM3.out.cell 3
  have y0 : w3.cell? ⟨w.heap.size, 0, none⟩ = some (.int .i64 0) := HL3.out.cell 0
  have y1 : w3.cell? ⟨w.heap.size, 1, none⟩ = some (.int .i64 0) := HL3.out.cell 1
  have y2 : w3.cell? ⟨w.heap.size, 2, none⟩ = some (.int .i64 0) := HL3.out.cell 2
  have y3 : w3.cell? ⟨w.heap.size, 3, none⟩ = some (.int .i64 0) := HL3.out.cell 3
  have hlt := HL3.out.lt
  have cf := HL3.out.thawed
  have HX : Hid (∀ v0 v1 v2 v3 : Value, Lies ((((w3.setCell ⟨w.heap.size, 0, none⟩ v0).setCell ⟨w.heap.size, 1, none⟩ v1).setCell ⟨w.heap.size, 2, none⟩ v2).setCell ⟨w.heap.size, 3, none⟩ v3) w.heap.size 31 #[v0, v1, v2, v3]) := fun v0 v1 v2 v3 => ((((HL3.out.here 0 v0).here 1 v1).here 2 v2).here 3 v3)
  have HY : Hid (∀ v0 v1 v2 v3 : Value, Turns (fun k => k = p) w ((((w3.setCell ⟨w.heap.size, 0, none⟩ v0).setCell ⟨w.heap.size, 1, none⟩ v1).setCell ⟨w.heap.size, 2, none⟩ v2).setCell ⟨w.heap.size, 3, none⟩ v3)) := fun v0 v1 v2 v3 => (((HT3.out.setCell (a := ⟨w.heap.size, 0, none⟩) (.inl (Nat.le_refl _)) _).setCell (a := ⟨w.heap.size, 1, none⟩) (.inl (Nat.le_refl _)) _).setCell (a := ⟨w.heap.size, 2, none⟩) (.inl (Nat.le_refl _)) _).setCell (a := ⟨w.heap.size, 3, none⟩) (.inl (Nat.le_refl _)) _
  have HZ : Hid (∀ v0 v1 v2 v3 : Value, Heap ((((w3.setCell ⟨w.heap.size, 0, none⟩ v0).setCell ⟨w.heap.size, 1, none⟩ v1).setCell ⟨w.heap.size, 2, none⟩ v2).setCell ⟨w.heap.size, 3, none⟩ v3) p room m) := fun v0 v1 v2 v3 => HF.out.turns ((((Turns.refl (fun k => k = w.heap.size) w3).setCell (a := ⟨w.heap.size, 0, none⟩) (.inr rfl) v0).setCell (a := ⟨w.heap.size, 1, none⟩) (.inr rfl) v1).setCell (a := ⟨w.heap.size, 2, none⟩) (.inr rfl) v2 |>.setCell (a := ⟨w.heap.size, 3, none⟩) (.inr rfl) v3) (by omega)
  go_wp2
  (try simp only [Exit.inBlock, Exit.then])
  refine bodyPost_ret (results_pair rfl _ _ w.heap.size _ _ rfl rfl (HX.out _ _ _ _) rfl) rfl ?_
  exact ⟨rfl, HZ.out _ _ _ _, HY.out _ _ _ _⟩
end Go.Proofs.Ytblecehmbmbjiaa
