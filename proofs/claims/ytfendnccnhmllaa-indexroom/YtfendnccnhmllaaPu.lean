/- What is put into a table of names, and what is refused. -/
import Derived.Test.YtfendnccnhmllaaPl
namespace Go.Proofs.Ytfendnccnhmllaa
open Go.RowKit

theorem textInfo' : ((Try.prog.info? 9).map fun i => (i.zero, i.size, i.bytes)) = some (some (Value.string ⟨#[]⟩), 1, 16) := by kernel_rfl
theorem textInfo : ∃ i, Try.prog.info? 9 = some i ∧ i.zero = some (Value.string ⟨#[]⟩) ∧ i.size = 1 ∧ i.bytes = 16 := by
  obtain ⟨i, hi, h⟩ := Option.map_eq_some_iff.1 textInfo'
  simp only [Prod.mk.injEq] at h
  exact ⟨i, hi, h.1, h.2.1, h.2.2⟩

/-- The name is the table's last, with the number k. -/
def Puts (S : Nat → Prop) (B p room : Nat) (xs : List ByteArray) (k : Nat) (w : World) (e : Ending) (w' : World) : Prop :=
  e = .returned (.tuple #[.int .i64 (k : Int), .int .i64 0]) ∧ (∃ S', Idx S' B w' p room xs ∧ (∀ k, S k → S' k) ∧ (∀ k, S' k → S k ∨ w.heap.size ≤ k)) ∧ Turns S w w'

/-- The worlds of a Put, one behind the other: the table behind the last one. -/
theorem put_fin {S : Nat → Prop} {B p room : Nat} {xs : List ByteArray} {s : ByteArray} {rows' : List (ByteArray × Nat)} {v v2 v3 v6 : Value} {o5 : Obj} {w w1 w3 w6 : World} {g3 cap3 g6 cap6 : Nat} {o : Obj}
    (hr1 : 1 ≤ room) (hr2 : room ≤ 256) (hl : xs.length < room) (hBw : B ≤ w.heap.size) (hsp : S p) (hin : ∀ k, S k → B ≤ k ∧ k < w.heap.size)
    (h1 : ∀ k, v.ownBlock = some k → S k ∧ k ≠ p) (h2 : ∀ k, v2.ownBlock = some k → S k ∧ k ≠ p ∧ v.ownBlock ≠ some k)
    (hb1 : Below w.heap.size w w1) (hv3 : v3 = .slice (some ⟨g3, 0, none⟩) (xs.length + 1) cap3) (hv6 : v6 = .slice (some ⟨g6, 0, none⟩) (xs.length + 1) cap6)
    (n3 : w3.ownsRow B 9 1 v3 (xs.length + 1) (xs.map .string ++ [.string s])) (gr3 : (w1.alloc o).grownBy w3 v.ownBlock) (a3 : v.ownBlock = some g3 ∨ g3 = w1.heap.size + 1)
    (n6 : w6.ownsRow B 50 2 v6 (xs.length + 1) (flat rows')) (t6 : Turns (fun k => v2.ownBlock = some k) ((w3.setCell ⟨p, 1, none⟩ v3).alloc o5) w6) (a6 : v2.ownBlock = some g6 ∨ ((w3.setCell ⟨p, 1, none⟩ v3).alloc o5).heap.size ≤ g6)
    (l6 : Lies w6 p 46 #[.int .i64 (room : Int), v3, v2]) (ht : Table (xs ++ [s]) rows') :
    Puts S B p room (xs ++ [s]) xs.length w (.returned (.tuple #[.int .i64 (xs.length : Int), .int .i64 0])) (w6.setCell ⟨p, 2, none⟩ v6) := by
  have s1 : w.heap.size ≤ w1.heap.size := hb1.size
  have s3 : w1.heap.size + 1 ≤ w3.heap.size := by simpa using gr3.size
  have s5 : ((w3.setCell ⟨p, 1, none⟩ v3).alloc o5).heap.size = w3.heap.size + 1 := by simp
  have s6 : w3.heap.size + 1 ≤ w6.heap.size := by have := t6.size; rw [s5] at this; exact this
  rw [s5] at a6
  have s7 : (w6.setCell ⟨p, 2, none⟩ v6).heap.size = w6.heap.size := by simp [World.setCell]
  have hp := (hin p hsp).2
  have b3 : v3.ownBlock = some g3 := by rw [hv3]; rfl
  have b6 : v6.ownBlock = some g6 := by rw [hv6]; rfl
  have l3 := (own_lt n3 b3)
  have l6' := (own_lt n6 b6)
  have g3p : g3 ≠ p := by
    rcases a3 with h | h
    · exact (h1 g3 h).2
    · omega
  have g3v2 : v2.ownBlock ≠ some g3 := fun h => by
    rcases a3 with h' | h'
    · exact (h2 g3 h).2.2 h'
    · have := (hin g3 (h2 g3 h).1).2; omega
  have g6p : g6 ≠ p := by
    rcases a6 with h | h
    · exact (h2 g6 h).2.1
    · omega
  have g36 : g3 ≠ g6 := fun e => by
    rcases a6 with h | h
    · exact g3v2 (e ▸ h)
    · omega
  have up : ∀ k, k < w3.heap.size → k ≠ p → v2.ownBlock ≠ some k → (w6.setCell ⟨p, 2, none⟩ v6).heap[k]? = w3.heap[k]? := fun k hk hkp hk2 => by
    rw [Below.heap_setCell w6 _ _ k hkp, t6.block k (by rw [s5]; omega) hk2, Below.heap_alloc _ _ k (by simpa [World.setCell] using hk), Below.heap_setCell w3 _ _ k hkp]
  refine ⟨rfl, ⟨fun k => S k ∨ (w.heap.size ≤ k ∧ k < w6.heap.size), ⟨hr1, hr2, by simp; omega, ?_, .inl hsp, v3, v6, rows', ?_, ?_, ?_, ht, ?_, ?_⟩, fun k hk => .inl hk, fun k hk => by rcases hk with h | h <;> first | exact .inl h | exact .inr h.1⟩, ?_⟩
  · rintro k (hk | hk)
    · exact ⟨(hin k hk).1, by rw [s7]; have := (hin k hk).2; omega⟩
    · exact ⟨by omega, by rw [s7]; exact hk.2⟩
  · have := l6.here 2 v6
    simpa using this
  · have := own_same (w' := w6.setCell ⟨p, 2, none⟩ v6) n3 (fun k hk => by
      rw [b3] at hk
      cases hk
      exact up g3 l3.2 g3p g3v2)
    simpa using this
  · have := own_same (w' := w6.setCell ⟨p, 2, none⟩ v6) n6 (fun k hk => by
      rw [b6] at hk
      cases hk
      exact Below.heap_setCell w6 _ _ g6 g6p)
    simpa using this
  · intro k hk
    rw [b3] at hk
    cases hk
    refine ⟨?_, g3p⟩
    rcases a3 with h | h
    · exact .inl (h1 g3 h).1
    · exact .inr ⟨by omega, by omega⟩
  · intro k hk
    rw [b6] at hk
    cases hk
    refine ⟨?_, g6p, by rw [b3]; exact fun e => g36 (Option.some.inj e)⟩
    rcases a6 with h | h
    · exact .inl (h2 g6 h).1
    · exact .inr ⟨by omega, l6'.2⟩
  · refine ⟨t6.os.trans (gr3.os.trans hb1.os), t6.tape.trans (gr3.tape.trans hb1.tape), t6.output.trans (gr3.output.trans hb1.output), by rw [s7]; omega, fun k hk hS => ?_⟩
    rw [up k (by omega) (fun e => hS (e ▸ hsp)) (fun e => hS (h2 k e).1), gr3.block k (by simp; omega) (fun e => hS (h1 k e.symm).1), Below.heap_alloc w1 _ k (by omega)]
    exact hb1.block k hk

section
variable {S : Nat → Prop} {B p room : Nat} {xs : List ByteArray} {w : World}
set_option maxHeartbeats 400000 in
theorem put_arg (s : ByteArray) (hs : nm s = false) :
    Calls Try.prog 11 #[.pointer (some ⟨p, 0, none⟩), .string s] w (Saw (.tuple #[.int .i64 0, .int .i64 1]) w) := by
  have hn := named s w
  rw [hs] at hn
  have HN := Lib.hid hn
  clear hn hs
  go_enter Try.func11, Try.ntmps11
  go_wp2_with (fail)
  with_reducible refine HN.out.mono ?_
  rintro e w' ⟨rfl, rfl⟩
  go_wp2
  go_ret2
  exact ⟨rfl, 0, rfl⟩

set_option maxHeartbeats 400000 in
theorem put_twice (s : ByteArray) (hs : nm s = true) (hx : s ∈ xs) (h : Idx S B w p room xs) :
    Calls Try.prog 11 #[.pointer (some ⟨p, 0, none⟩), .string s] w (Saw (.tuple #[.int .i64 0, .int .i64 7]) w) := by
  have hn := named s w
  rw [hs] at hn
  have HN := Lib.hid hn
  have HP := Lib.hid (place s true (by simp [hx]) h)
  clear hn hs h hx
  go_enter Try.func11, Try.ntmps11
  go_wp2_with (fail)
  with_reducible refine HN.out.mono ?_
  rintro e w' ⟨rfl, rfl⟩
  go_wp2_with (fail)
  with_reducible refine HP.out.mono ?_
  rintro e w' ⟨rfl, m, rfl⟩
  go_wp2
  go_ret2
  exact ⟨rfl, m, rfl⟩

set_option maxHeartbeats 400000 in
theorem put_full (s : ByteArray) (hs : nm s = true) (hx : s ∉ xs) (hl : xs.length = room) (h : Idx S B w p room xs) :
    Calls Try.prog 11 #[.pointer (some ⟨p, 0, none⟩), .string s] w (Saw (.tuple #[.int .i64 0, .int .i64 3]) w) := by
  have hn := named s w
  rw [hs] at hn
  have HN := Lib.hid hn
  have HP := Lib.hid (place s false (by simp [hx]) h)
  obtain ⟨vn, vr, rows, hp, ho, hr, ht, h1, h2⟩ := h.body
  obtain ⟨a, cap, rfl, hcap, hat⟩ := own_form ho
  rw [hl] at hp
  have c0 : w.cell? ⟨p, 0, none⟩ = some (.int .i64 (room : Int)) := by rw [hp.cell]; rfl
  have c1 : w.cell? ⟨p, 1, none⟩ = some (.slice a room cap) := by rw [hp.cell]; rfl
  clear hn hs h hx hp ho hr ht h1 h2 hat hl hcap
  go_enter Try.func11, Try.ntmps11
  go_wp2_with (fail)
  with_reducible refine HN.out.mono ?_
  rintro e w' ⟨rfl, rfl⟩
  go_wp2_with (fail)
  with_reducible refine HP.out.mono ?_
  rintro e w' ⟨rfl, m, rfl⟩
  go_wp2
  go_ret2
  exact ⟨rfl, m, rfl⟩

set_option maxRecDepth 100000 in
set_option maxHeartbeats 2000000 in
theorem put (s : ByteArray) (hs : nm s = true) (hx : s ∉ xs) (hl : xs.length < room) (h : Idx S B w p room xs) :
    Calls Try.prog 11 #[.pointer (some ⟨p, 0, none⟩), .string s] w (Puts S B p room (xs ++ [s]) xs.length w) := by
  obtain ⟨i0, hi, hz, hsz, hbt⟩ := textInfo
  have hn := named s w
  rw [hs] at hn
  have HN := Lib.hid hn
  have hsl := nm_short hs
  have HP := Lib.hid (place s false (by simp [hx]) h)
  have hroom := h.r2
  have hBw : B ≤ w.heap.size := by have := h.inS p h.sp; omega
  have hplt : p < w.heap.size := (h.inS p h.sp).2
  obtain ⟨vn, vr, rows, hp, ho, hr, ht, h1, h2⟩ := h.body
  have hinS := h.inS
  have hsp := h.sp
  obtain ⟨a, cap, rfl, hcap, _⟩ := own_form ho
  obtain ⟨a2, cap2, rfl, hcap2, _⟩ := own_form hr
  obtain ⟨q, hq⟩ : ∃ q, q = pos s (srt xs) := ⟨_, rfl⟩
  have hqn : q ≤ xs.length := by rw [hq, ← length_srt xs]; exact pos_le _ _
  rw [← hq] at HP
  have HT := Lib.hid (show Table (xs ++ [s]) (rows.take q ++ (s, xs.length) :: rows.drop q) by rw [hq]; exact ht.put hx)
  have hfl : flat (rows.take q ++ (s, xs.length) :: rows.drop q) = (flat rows).take (q * 2) ++ [.string s, .int .i64 (xs.length : Int)] ++ (flat rows).drop (q * 2) := by
    rw [flat_append, flat_take, ← flat_drop]; simp [flat]
  have HFL := Lib.hid hfl
  have c0 : w.cell? ⟨p, 0, none⟩ = some (.int .i64 (room : Int)) := by rw [hp.cell]; rfl
  have c1 : w.cell? ⟨p, 1, none⟩ = some (.slice a xs.length cap) := by rw [hp.cell]; rfl
  have HLP := Lib.hid hp
  have HO := Lib.hid ho
  have HR := Lib.hid hr
  have H1 := Lib.hid h1
  have H2 := Lib.hid h2
  have HI := Lib.hid hi
  have HZ := Lib.hid hz
  have HSZ := Lib.hid hsz
  have HBT := Lib.hid hbt
  have HIN := Lib.hid hinS
  clear hn hs h hx hp ho hr ht h1 h2 hi hz hsz hbt hinS hq hfl
  have t1 : ((xs.length : Int) == (room : Int)) = false := by rw [beq_eq_false_iff_ne]; omega
  go_enter Try.func11, Try.ntmps11
  go_wp2_with (fail)
  with_reducible refine HN.out.mono ?_
  rintro e w' ⟨rfl, rfl⟩
  go_wp2_with (fail)
  with_reducible refine HP.out.mono ?_
  rintro e w' ⟨rfl, m, rfl⟩
  go_wp2_with (fail)
  with_reducible refine (clone s _ (by omega)).mono ?_
  rintro e w1 ⟨rfl, hb1⟩
  have HB1 : Hid (Below w.heap.size w w1) := ⟨hb1.os, hb1.tape, hb1.output, hb1.size, hb1.block⟩
  clear hb1
  have hs1 := HB1.out.size
  have L1 := Lib.hid (HLP.out.below HB1.out hplt)
  have d1 : w1.cell? ⟨p, 1, none⟩ = some (.slice a xs.length cap) := by rw [L1.out.cell]; rfl
  have O1 : Hid (w1.ownsRow B 9 1 (.slice a xs.length cap) xs.length (xs.map .string)) := own_same HO.out (fun k hk => HB1.out.block k (own_lt HO.out hk).2)
  have O2 : Hid (w1.ownsRow B 50 2 (.slice a2 xs.length cap2) xs.length (flat rows)) := own_same HR.out (fun k hk => HB1.out.block k (own_lt HR.out hk).2)
  go_wp2_with (
    at_builtin
    refine wpList_append_lies _ rfl _ _ 22 rfl B 9 i0 _ 1 16 Try.underlying22 HI.out HZ.out HSZ.out HBT.out rfl (by omega) (.slice a xs.length cap) xs.length (xs.map .string) rfl (O1.out.alloc _) ⟨w1.heap.size, 0, none⟩ 1 1 [.string s] rfl rfl (World.news_of_block (cs := #[.string s]) (t := 9) (fr := (0, 0)) (heap_alloc_new w1 _)) (by simp [Value.oneCell']) (by omega) (by unfold maxLen; omega) (by omega) (by simp; omega) (w1.heap.size + 1) (by simp) ?_
    intro g3 cap3 w3 hown3 hgrow3 hat3 hlt3
    have L3 : Hid (Lies w3 p 46 #[.int .i64 (room : Int), .slice a xs.length cap, .slice a2 xs.length cap2]) := by
      show w3.heap[p]? = _
      rw [hgrow3.block p (by simp; omega) (fun e => (H1.out p e.symm).2 rfl)]
      exact L1.out.alloc _
    have O3 : Hid (w3.ownsRow B 50 2 (.slice a2 xs.length cap2) xs.length (flat rows)) := own_same (O2.out.alloc _) (fun k hk => hgrow3.block k (own_lt (O2.out.alloc _) hk).2 (fun e => (H2.out k hk).2.2 e.symm))
    have N3 := Lib.hid hown3
    have G3 := Lib.hid hgrow3
    have A3 := Lib.hid hat3
    have hs3 : w1.heap.size + 1 ≤ w3.heap.size := by simpa using hgrow3.size
    have e1 : w3.cell? ⟨p, 1, none⟩ = some (.slice a xs.length cap) := by rw [L3.out.cell]; rfl
    have e2 : w3.cell? ⟨p, 2, none⟩ = some (.slice a2 xs.length cap2) := by rw [L3.out.cell]; rfl
    have f1 : w3.frozen? ⟨p, 1, none⟩ = false := L3.out.thawed 1
    clear hown3 hgrow3 hat3 d1)
  have L5 : Hid (Lies ((w3.setCell ⟨p, 1, none⟩ (.slice (some ⟨g3, 0, none⟩) (xs.length + 1) cap3)).alloc (.cells #[.string s, .int .i64 (xs.length : Int)] 50)) p 46 #[.int .i64 (room : Int), .slice (some ⟨g3, 0, none⟩) (xs.length + 1) cap3, .slice a2 xs.length cap2]) := by
    have := (L3.out.here 1 (.slice (some ⟨g3, 0, none⟩) (xs.length + 1) cap3)).alloc (.cells #[.string s, .int .i64 (xs.length : Int)] 50)
    exact Lib.hid (by simpa using this)
  have V5 : Hid (Lies ((w3.setCell ⟨p, 1, none⟩ (.slice (some ⟨g3, 0, none⟩) (xs.length + 1) cap3)).alloc (.cells #[.string s, .int .i64 (xs.length : Int)] 50)) w3.heap.size 50 #[.string s, .int .i64 (xs.length : Int)]) := by
    have := Lies.made (w3.setCell ⟨p, 1, none⟩ (.slice (some ⟨g3, 0, none⟩) (xs.length + 1) cap3)) 50 #[.string s, .int .i64 (xs.length : Int)]
    exact Lib.hid (by simpa using this)
  have O5 : Hid (((w3.setCell ⟨p, 1, none⟩ (.slice (some ⟨g3, 0, none⟩) (xs.length + 1) cap3)).alloc (.cells #[.string s, .int .i64 (xs.length : Int)] 50)).ownsRow B 50 2 (.slice a2 xs.length cap2) xs.length (flat rows)) :=
    World.ownsRow.alloc (own_same O3.out (fun k hk => Below.heap_setCell w3 _ _ k (H2.out k hk).2.1)) _
  have hne5 : (Value.slice a2 xs.length cap2).ownBlock ≠ some w3.heap.size := fun e => by have := (own_lt O3.out e).2; omega
  have HNE := Lib.hid hne5
  clear hne5
  with_reducible refine (insert (i := q) (by simp; omega) (by omega) hqn O5.out V5.out HNE.out (flat_one rows) rfl rfl).mono ?_
  rintro e w6 ⟨g6, cap6, rfl, hown6, ht6, hat6⟩
  have N6 := Lib.hid (show w6.ownsRow B 50 2 (.slice (some ⟨g6, 0, none⟩) (xs.length + 1) cap6) (xs.length + 1) (flat (rows.take q ++ (s, xs.length) :: rows.drop q)) by rw [HFL.out]; exact hown6)
  have L6 := Lib.hid (L5.out.turns ht6 (fun e => (H2.out p e).2.1 rfl))
  have T6 := Lib.hid ht6
  have A6 := Lib.hid hat6
  clear hown6 ht6 hat6
  have k2 : w6.cell? ⟨p, 2, none⟩ = some (.slice a2 xs.length cap2) := by rw [L6.out.cell]; rfl
  have f2 : w6.frozen? ⟨p, 2, none⟩ = false := L6.out.thawed 2
  go_wp2
  go_ret2
  exact put_fin (by omega) hroom hl hBw hsp HIN.out H1.out H2.out HB1.out rfl rfl N3.out G3.out A3.out N6.out T6.out A6.out L6.out HT.out
end
end Go.Proofs.Ytfendnccnhmllaa
