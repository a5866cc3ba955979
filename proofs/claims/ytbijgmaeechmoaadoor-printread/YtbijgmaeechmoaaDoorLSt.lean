/- The reader's steps. -/
import Derived.Test.YtbijgmaeechmoaaDoorLPt
namespace Go.Proofs.YtbijgmaeechmoaaDoor.Lx
open Go.RowKit
set_option maxRecDepth 100000

section
variable {w0 w : World} {g : Nat} {a : Option Addr} {len cap i line beg : Nat} {ts : List Tok}
theorem Rdr.c0 (h : Rdr w0 g a len cap i line beg ts w) : w.cell? ⟨g, 0, none⟩ = some (.slice a len cap) := by obtain ⟨v, h1, _, _⟩ := h.body; exact (h1.cell 0).trans rfl
theorem Rdr.c1 (h : Rdr w0 g a len cap i line beg ts w) : w.cell? ⟨g, 1, none⟩ = some (.int .i64 (i : Int)) := by obtain ⟨v, h1, _, _⟩ := h.body; exact (h1.cell 1).trans rfl
theorem Rdr.c2 (h : Rdr w0 g a len cap i line beg ts w) : w.cell? ⟨g, 2, none⟩ = some (.int .i64 (line : Int)) := by obtain ⟨v, h1, _, _⟩ := h.body; exact (h1.cell 2).trans rfl
theorem Rdr.c3 (h : Rdr w0 g a len cap i line beg ts w) : w.cell? ⟨g, 3, none⟩ = some (.int .i64 (beg : Int)) := by obtain ⟨v, h1, _, _⟩ := h.body; exact (h1.cell 3).trans rfl
theorem Rdr.thawed (h : Rdr w0 g a len cap i line beg ts w) (j : Nat) : w.frozen? ⟨g, j, none⟩ = false := by obtain ⟨v, h1, _, _⟩ := h.body; exact h1.thawed j
theorem Rdr.bytes {l : List UInt8} (h : Rdr w0 g a len cap i line beg ts w) (hb : Bytes w0 a cap l) : Bytes w a cap l := hb.below (Nat.le_refl _) h.below
end

/-- Behind a number: it is a token more, or it is over. -/
def Numbers (w0 : World) (g : Nat) (a : Option Addr) (len cap i line beg : Nat) (ts : List Tok) (p : List UInt8) (e : Ending) (w' : World) : Prop :=
  (vals 0 p ≤ most ∧ e = .returned (.int .i64 0) ∧ Rdr w0 g a len cap (i + p.length) line beg (ts ++ [⟨2, p, vals 0 p, line, i - beg + 1⟩]) w') ∨
  (¬ vals 0 p ≤ most ∧ e = .returned (.int .i64 2) ∧ Rdr w0 g a len cap i line beg ts w')

set_option maxRecDepth 100000 in
set_option maxHeartbeats 4000000 in
theorem number (l p q : List UInt8) (w0 : World) (g b off cap i line beg : Nat) (ts : List Tok) {w : World} (hl : l.length ≤ 1000000) (hi : i ≤ l.length) (hbi : beg ≤ i) (hts : ts.length ≤ 1000000)
    (e : l.drop i = p ++ q) (hp : ∀ x ∈ p, digitC x = true) (hq : Ends digitC q) (h0 : 0 < p.length)
    (hb : Bytes w0 (some ⟨b, off, none⟩) cap l) (h : Rdr w0 g (some ⟨b, off, none⟩) l.length cap i line beg ts w) :
    Calls Tryd.prog 52 #[.pointer (some ⟨g, 0, none⟩)] w (Numbers w0 g (some ⟨b, off, none⟩) l.length cap i line beg ts p) := by
  have hsum : i + (p.length + q.length) = l.length := by
    have := congrArg List.length e
    simp at this; omega
  have hle := hb.le
  have hT : (l.drop i).take p.length = p := by rw [e]; simp
  have KR := Lib.hid (reach21 l p q g i cap _ hl hi (h.bytes hb) e hp hq h.c0 h.c1)
  obtain ⟨b', off', e', _, hc⟩ := (h.bytes hb).at_ (by omega)
  cases e'
  have hcs : ∀ j c, p[j]? = some c → w.cell? ⟨b, off + i + j, none⟩ = some (.int .u8 (c.toNat : Int)) := fun j c hj => by
    rw [Nat.add_assoc]
    refine hc (i + j) c ?_
    rw [drop_at e, List.getElem?_append_left (List.getElem?_eq_some_iff.1 hj).1]; exact hj
  have KV : Hid (∀ m c, Calls Tryd.prog 67 #[.slice (some ⟨b, off + i, none⟩) p.length c] (w.drewN m) (Says (valueV p) (w.drewN m))) := fun m c => valueOf p b (off + i) c (w.drewN m) (by omega) hp hcs
  have HH := Lib.hid h
  have HB := Lib.hid hb
  have HT := Lib.hid hT
  have c0 := h.c0
  have c1 := h.c1
  have q1 : ¬ (cap = i) := by omega
  have q2 : i + p.length ≤ cap := by omega
  clear hc hcs h hb hT e hp hq
  by_cases hv : vals 0 p ≤ most
  · have KV1 : Hid (∀ m c, Calls Tryd.prog 67 #[.slice (some ⟨b, off + i, none⟩) p.length c] (w.drewN m) (Says (.tuple #[.int .i64 (vals 0 p : Nat), .bool true]) (w.drewN m))) := fun m c => by
      have := KV.out m c
      unfold valueV at this
      rwa [if_pos hv] at this
    clear KV
    obtain ⟨x, hx⟩ : ∃ x, x = vals 0 p := ⟨_, rfl⟩
    rw [← hx] at KV1
    have HX := Lib.hid hx
    have HV := Lib.hid hv
    clear hx hv
    have HP : Hid (∀ k, Calls Tryd.prog 39 #[.pointer (some ⟨g, 0, none⟩), .int .i64 2, .int .i64 (p.length : Int), .int .i64 (x : Int)] (w.drewN k) (Puts w0 g (some ⟨b, off, none⟩) l.length cap (i + p.length) line beg (ts ++ [⟨2, p, x, line, i - beg + 1⟩]))) := fun k => by
      have := put_some l w0 g b off cap i line beg ts 2 p.length x hl (by omega) (by omega) hbi hts HB.out (HH.out.drewN k)
      rw [HT.out] at this
      exact this
    go_enter Tryd.func52, Tryd.ntmps52
    go_wp2_with (fail)
    with_reducible refine KR.out.mono ?_
    rintro e w' ⟨rfl, m, rfl⟩
    go_wp2
    go_quiet (exact (KV1.out _ _).mono fun _ _ h => ⟨h.1, _, h.2.symm⟩)
    go_wp2_with (fail)
    with_reducible refine (HP.out _).mono ?_
    rintro e w2 ⟨rfl, hr⟩
    have HR := Lib.hid hr
    clear hr
    go_wp2
    go_ret
    exact .inl ⟨HV.out, rfl, by have := HR.out; rw [HX.out] at this; exact this⟩
  · have KV1 : Hid (∀ m c, Calls Tryd.prog 67 #[.slice (some ⟨b, off + i, none⟩) p.length c] (w.drewN m) (Says (.tuple #[.int .i64 0, .bool false]) (w.drewN m))) := fun m c => by
      have := KV.out m c
      unfold valueV at this
      rwa [if_neg hv] at this
    clear KV
    have HV := Lib.hid hv
    clear hv
    go_enter Tryd.func52, Tryd.ntmps52
    go_wp2_with (fail)
    with_reducible refine KR.out.mono ?_
    rintro e w' ⟨rfl, m, rfl⟩
    go_wp2
    go_quiet (exact (KV1.out _ _).mono fun _ _ h => ⟨h.1, _, h.2.symm⟩)
    go_wp2
    go_ret
    exact .inr ⟨HV.out, rfl, HH.out.drewN _⟩

set_option maxRecDepth 100000 in
set_option maxHeartbeats 2000000 in
theorem endLine (l : List UInt8) (w0 : World) (g b off cap i line beg : Nat) (ts : List Tok) {w : World} (hl : l.length ≤ 1000000) (hi : i < l.length) (hbi : beg ≤ i) (hli : line ≤ i + 1) (hts : ts.length ≤ 1000000)
    (hb : Bytes w0 (some ⟨b, off, none⟩) cap l) (h : Rdr w0 g (some ⟨b, off, none⟩) l.length cap i line beg ts w) :
    Calls Tryd.prog 55 #[.pointer (some ⟨g, 0, none⟩)] w (Puts w0 g (some ⟨b, off, none⟩) l.length cap (i + 1) (line + 1) (i + 1) (ts ++ [⟨3, [], 0, line, i - beg + 1⟩])) := by
  have hle := hb.le
  have HP : Hid (Calls Tryd.prog 39 #[.pointer (some ⟨g, 0, none⟩), .int .i64 3, .int .i64 0, .int .i64 0] w (Puts w0 g (some ⟨b, off, none⟩) l.length cap i line beg (ts ++ [⟨3, [], 0, line, i - beg + 1⟩]))) := by
    have := put_some l w0 g b off cap i line beg ts 3 0 0 hl (by omega) (by omega) hbi hts hb h
    rw [List.take_zero] at this
    exact this
  clear hb h
  go_enter Tryd.func55, Tryd.ntmps55
  go_wp2_with (fail)
  with_reducible refine HP.out.mono ?_
  rintro e w2 ⟨rfl, hr⟩
  have H1 := Lib.hid hr
  have d1 := hr.c1
  have d2 := hr.c2
  have f1 := hr.thawed 1
  have f2 := hr.thawed 2
  have f3 := hr.thawed 3
  have d3 := hr.c3
  have HF := Lib.hid (((hr.goto (i + 1)).goLine (line + 1)).goBegin (i + 1))
  clear hr
  go_wp2
  go_end0
  exact ⟨rfl, by have := HF.out; simpa using this⟩
end Go.Proofs.YtbijgmaeechmoaaDoor.Lx
