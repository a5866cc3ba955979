/- Sets as texts: what is printed, as a function of lists; that it is read as it was. -/
import Derived.Test.YtbijgmaeechmoaaDoorPs
import Derived.Lib.ItoaMem
namespace Go.Proofs.YtbijgmaeechmoaaDoor
open Lx Kx

def modeW (m : Int) : List UInt8 := if m = 1 then [114, 101, 116, 114, 121] else if m = 2 then [98, 108, 111, 99, 107] else if m = 3 then [98, 97, 99, 107, 117, 112] else [110, 111, 110, 101]
def numsW : List Int → List UInt8
  | [] => []
  | n :: r => 32 :: (Lib.itoa n ++ numsW r)
def lineW (t : Tk) : List UInt8 := sTask ++ (32 :: t.name.data.toList) ++ numsW [t.T, t.D, t.C] ++ (32 :: modeW t.Mode) ++ numsW [t.A, t.Seg, t.Cost, t.M, t.K, t.Prio]
def linesW : List Tk → List UInt8
  | [] => []
  | t :: r => lineW t ++ 10 :: linesW r
def textW (b : Int) (l : List Tk) : List UInt8 := sBurst ++ numsW [b] ++ 10 :: linesW l
/-- What is answered of a set. -/
def printA (b : Int) (l : List Tk) : List UInt8 × Int := if (whyF b l).1 = 0 then (textW b l, 0) else ([], 1)

theorem numsW_append (x y : List Int) : numsW (x ++ y) = numsW x ++ numsW y := by
  induction x with
  | nil => rfl
  | cons n x ih => simp [numsW, ih]
theorem linesW_append (x y : List Tk) : linesW (x ++ y) = linesW x ++ linesW y := by
  induction x with
  | nil => rfl
  | cons n x ih => simp [linesW, ih]

/- Digits. -/
theorem vals_snoc (p : List UInt8) (c : UInt8) : ∀ n, vals n (p ++ [c]) = vals n p * 10 + (c.toNat - 48) := by
  induction p with
  | nil => intro n; exact rfl
  | cons d p ih => intro n; exact ih _
theorem dig_toNat {u : Nat} (h : u < 10) : (UInt8.ofNat (48 + u)).toNat = 48 + u := by
  rw [UInt8.toNat_ofNat', Nat.mod_eq_of_lt (by omega)]
theorem dig_digit {u : Nat} (h : u < 10) : digitC (UInt8.ofNat (48 + u)) = true := by
  unfold digitC
  rw [dig_toNat h]
  simp; omega
theorem dec_small {u : Nat} (h : u < 10) : Lib.decDigits u = [UInt8.ofNat (48 + u)] := by rw [Lib.decDigits, dif_pos h]
theorem dec_big {u : Nat} (h : ¬ u < 10) : Lib.decDigits u = Lib.decDigits (u / 10) ++ [UInt8.ofNat (48 + u % 10)] := by rw [Lib.decDigits, dif_neg h]
theorem dec_vals (u : Nat) : vals 0 (Lib.decDigits u) = u := by
  induction u using Nat.strongRecOn with
  | _ u ih =>
    by_cases h : u < 10
    · rw [dec_small h]
      have : vals 0 [UInt8.ofNat (48 + u)] = 0 * 10 + ((UInt8.ofNat (48 + u)).toNat - 48) := by exact rfl
      rw [this, dig_toNat h]; omega
    · rw [dec_big h, vals_snoc, ih (u / 10) (by omega), dig_toNat (by omega)]; omega
theorem dec_digit (u : Nat) : ∀ x ∈ Lib.decDigits u, digitC x = true := by
  induction u using Nat.strongRecOn with
  | _ u ih =>
    intro x hx
    by_cases h : u < 10
    · rw [dec_small h] at hx
      rw [List.mem_singleton.1 hx]; exact dig_digit h
    · rw [dec_big h] at hx
      rcases List.mem_append.1 hx with hx | hx
      · exact ih (u / 10) (by omega) x hx
      · rw [List.mem_singleton.1 hx]; exact dig_digit (by omega)
theorem dec_cons (u : Nat) : ∃ c p, Lib.decDigits u = c :: p := by
  by_cases h : u < 10
  · exact ⟨_, _, dec_small h⟩
  · rw [dec_big h]
    cases Lib.decDigits (u / 10) with
    | nil => exact ⟨_, _, rfl⟩
    | cons c p => exact ⟨c, _, rfl⟩
theorem itoa_of {n : Int} (h : 0 ≤ n) : Lib.itoa n = Lib.decDigits n.toNat := by unfold Lib.itoa; rw [if_neg (by omega)]

/-- Pieces of a line: words and numbers. -/
inductive Pc where
  | w (s : List UInt8)
  | n (k : Nat)
def pcW : List Pc → List UInt8
  | [] => []
  | .w s :: r => 32 :: (s ++ pcW r)
  | .n k :: r => 32 :: (Lib.decDigits k ++ pcW r)
/-- A word as texts have them. -/
def Wd (s : List UInt8) : Prop := ∃ c p, s = c :: p ∧ smallC c = true ∧ ∀ x ∈ p, signC x = true
def PcOk : Pc → Prop
  | .w s => Wd s
  | .n k => k ≤ most
def Mt (t : Tok) : Pc → Prop
  | .w s => t.kind = 1 ∧ t.text = s
  | .n k => t.kind = 2 ∧ t.value = k
def Mts : List Tok → List Pc → Prop
  | [], [] => True
  | t :: ts, p :: ps => Mt t p ∧ Mts ts ps
  | _, _ => False
theorem blank32 : blankC 32 = true := by decide
theorem sign32 (q : List UInt8) : Lx.Ends signC (32 :: q) := Lx.Ends.mk (by decide)
theorem digit32 (q : List UInt8) : Lx.Ends digitC (32 :: q) := Lx.Ends.mk (by decide)
theorem sign10 (q : List UInt8) : Lx.Ends signC (10 :: q) := Lx.Ends.mk (by decide)
theorem digit10 (q : List UInt8) : Lx.Ends digitC (10 :: q) := Lx.Ends.mk (by decide)
theorem pc_ends (l : List Pc) (q : List UInt8) : Lx.Ends signC (pcW l ++ 10 :: q) ∧ Lx.Ends digitC (pcW l ++ 10 :: q) := by
  cases l with
  | nil => exact ⟨sign10 q, digit10 q⟩
  | cons p l => cases p <;> exact ⟨sign32 _, digit32 _⟩
/-- Pieces are read one by one, up to the line's end. -/
theorem lex_pc (q : List UInt8) : ∀ (l : List Pc) (line col : Nat), (∀ p ∈ l, PcOk p) →
    ∃ ts c', Mts ts l ∧ lexA (pcW l ++ 10 :: q) line col = (ts ++ ⟨3, [], 0, line, c'⟩ :: (lexA q (line + 1) 1).1, (lexA q (line + 1) 1).2)
  | [], line, col, _ => ⟨[], col, trivial, by rw [pcW, List.nil_append, lexA_line (by rfl)]; rfl⟩
  | .w s :: l, line, col, h => by
    obtain ⟨c, p, rfl, hc, hp⟩ : Wd s := h (.w s) (by simp)
    obtain ⟨ts, c', h1, h2⟩ := lex_pc q l line (col + 1 + (p.length + 1)) (fun x hx => h x (by simp [hx]))
    refine ⟨⟨1, c :: p, 0, line, col + 1⟩ :: ts, c', ⟨⟨rfl, rfl⟩, h1⟩, ?_⟩
    have e : pcW (.w (c :: p) :: l) ++ 10 :: q = 32 :: (c :: (p ++ (pcW l ++ 10 :: q))) := by simp [pcW]
    rw [e, lexA_blank blank32, lexA_word hc hp (pc_ends l q).1, h2]
    rfl
  | .n k :: l, line, col, h => by
    obtain ⟨c, p, hk⟩ := dec_cons k
    have hd := dec_digit k
    have hv := dec_vals k
    rw [hk] at hd hv
    have hm : k ≤ most := h (.n k) (by simp)
    obtain ⟨ts, c', h1, h2⟩ := lex_pc q l line (col + 1 + (p.length + 1)) (fun x hx => h x (by simp [hx]))
    refine ⟨⟨2, c :: p, k, line, col + 1⟩ :: ts, c', ⟨⟨rfl, rfl⟩, h1⟩, ?_⟩
    have e : pcW (.n k :: l) ++ 10 :: q = 32 :: (c :: (p ++ (pcW l ++ 10 :: q))) := by simp [pcW, hk]
    rw [e, lexA_blank blank32, lexA_num (hd c (by simp)) (fun x hx => hd x (by simp [hx])) (pc_ends l q).2 (by rw [hv]; exact hm), h2, hv]
    rfl
/-- A line: its first word, and pieces. -/
theorem lex_line (q s : List UInt8) (hs : Wd s) (l : List Pc) (hl : ∀ p ∈ l, PcOk p) (line col : Nat) :
    ∃ t ts c', Mt t (.w s) ∧ Mts ts l ∧ lexA (s ++ (pcW l ++ 10 :: q)) line col = (t :: (ts ++ ⟨3, [], 0, line, c'⟩ :: (lexA q (line + 1) 1).1), (lexA q (line + 1) 1).2) := by
  obtain ⟨c, p, rfl, hc, hp⟩ := hs
  obtain ⟨ts, c', h1, h2⟩ := lex_pc q l line (col + (p.length + 1)) hl
  refine ⟨⟨1, c :: p, 0, line, col⟩, ts, c', ⟨rfl, rfl⟩, h1, ?_⟩
  rw [List.cons_append, lexA_word hc hp (pc_ends l q).1, h2]
  rfl

/- What is right, in plain words. -/
theorem smallB_C (c : UInt8) : smallB (c.toNat : Int) = smallC c := by
  unfold smallB smallC
  congr 1 <;> exact decide_eq_decide.2 (by omega)
theorem signB_C (c : UInt8) : signB (c.toNat : Int) = signC c := by
  unfold signB signC digitB digitC
  rw [smallB_C]
  congr 1
  congr 1
  · congr 1 <;> exact decide_eq_decide.2 (by omega)
  · rw [Bool.eq_iff_iff]; simp; omega
theorem byteOf_at {s : ByteArray} {i : Nat} {c : UInt8} (h : s.data.toList[i]? = some c) : Kx.byteOf s i = (c.toNat : Int) := by
  obtain ⟨h1, h2⟩ := List.getElem?_eq_some_iff.1 h
  have hs : i < s.size := by
    rw [Array.length_toList] at h1; exact h1
  unfold Kx.byteOf
  rw [dif_pos hs, ← h2]
  rfl
theorem wd_name {s : ByteArray} (h : nm s = true) : Wd s.data.toList := by
  obtain ⟨h1, h2, h3, h4⟩ := (nm_iff s).1 h
  have hl : s.data.toList.length = s.size := by rw [Array.length_toList]; rfl
  cases hd : s.data.toList with
  | nil => rw [hd] at hl; simp at hl; omega
  | cons c p =>
    refine ⟨c, p, rfl, ?_, fun x hx => ?_⟩
    · rw [byteOf_at (i := 0) (c := c) (by rw [hd]; rfl), smallB_C] at h3; exact h3
    · obtain ⟨j, hj⟩ := List.getElem?_of_mem hx
      have h5 : s.data.toList[j + 1]? = some x := by rw [hd]; simpa using hj
      have hlt := (List.getElem?_eq_some_iff.1 h5).1
      have := h4 (j + 1) (by omega) (by omega)
      rw [byteOf_at h5, signB_C] at this; exact this
/-- What is asked of a task, without its place. -/
structure Fine (t : Tk) : Prop where
  name : nm t.name = true
  times : timesOk t
  mode : modeOk t
  firm : firmOk t
  prio : 0 ≤ t.Prio ∧ t.Prio ≤ 255
theorem of_not {p : Prop} [Decidable p] (h : (!decide p) = false) : p := of_decide_eq_true (by simpa using h)
theorem fine_of {e : List Tk} {t : Tk} (h : bad1 e t = 0) : Fine t := by
  obtain ⟨h1, h2, h3, h4, h5⟩ := bad1_zero h
  unfold bName at h1
  unfold bPrio prioIn at h5
  simp only [Bool.or_eq_false_iff, Bool.not_eq_false', Bool.and_eq_true, decide_eq_true_eq] at h1 h5
  exact ⟨h1.1, of_not h2, of_not h3, of_not h4, h5.1⟩
theorem fines {b : Int} {l : List Tk} (h : (whyF b l).1 = 0) : ∀ t ∈ l, Fine t := fun t ht => by
  obtain ⟨i, hi⟩ := List.getElem?_of_mem ht
  exact fine_of (((right_iff b l).1 h).2.2 i t hi)
/-- All numbers of a right task are small, and not negative. -/
structure Small (t : Tk) : Prop where
  T : 0 ≤ t.T ∧ t.T ≤ 1048576
  D : 0 ≤ t.D ∧ t.D ≤ 1048576
  C : 0 ≤ t.C ∧ t.C ≤ 1048576
  A : 0 ≤ t.A ∧ t.A ≤ 1048576
  Seg : 0 ≤ t.Seg ∧ t.Seg ≤ 1048576
  Cost : 0 ≤ t.Cost ∧ t.Cost ≤ 1048576
  M : 0 ≤ t.M ∧ t.M ≤ 1048576
  K : 0 ≤ t.K ∧ t.K ≤ 1048576
  Mode : t.Mode = 1 ∨ t.Mode = 2 ∨ t.Mode = 3
  Prio : 0 ≤ t.Prio ∧ t.Prio ≤ 1048576
theorem Fine.small {t : Tk} (h : Fine t) : Small t := by
  obtain ⟨_, ⟨a1, a2, a3, a4, a5, a6⟩, hm, ⟨c1, c2, c3⟩, d1, d2⟩ := h
  have hM : t.Mode = 1 ∨ t.Mode = 2 ∨ t.Mode = 3 := by rcases hm with ⟨h, _⟩ | ⟨h | h, _⟩ <;> simp [h]
  have hA : 0 ≤ t.A ∧ t.A ≤ 1048576 := by rcases hm with ⟨_, _, _, h⟩ | ⟨_, h1, h2, _⟩ <;> omega
  have hS : 0 ≤ t.Seg ∧ t.Seg ≤ 1048576 := by rcases hm with ⟨_, h1, h2, _⟩ | ⟨_, _, _, h⟩ <;> omega
  exact ⟨by omega, by omega, by omega, hA, hS, by omega, by omega, by omega, hM, by omega⟩

/-- A right task's line, in pieces. -/
def pcs (t : Tk) : List Pc := [.w t.name.data.toList, .n t.T.toNat, .n t.D.toNat, .n t.C.toNat, .w (modeW t.Mode), .n t.A.toNat, .n t.Seg.toNat, .n t.Cost.toNat, .n t.M.toNat, .n t.K.toNat, .n t.Prio.toNat]
theorem lineW_pcs {t : Tk} (h : Small t) : lineW t = sTask ++ pcW (pcs t) := by
  simp [lineW, pcs, pcW, numsW, itoa_of h.T.1, itoa_of h.D.1, itoa_of h.C.1, itoa_of h.A.1, itoa_of h.Seg.1, itoa_of h.Cost.1, itoa_of h.M.1, itoa_of h.K.1, itoa_of h.Prio.1]
theorem wd_mode {m : Int} (h : m = 1 ∨ m = 2 ∨ m = 3) : Wd (modeW m) := by
  rcases h with rfl | rfl | rfl
  · exact ⟨114, [101, 116, 114, 121], rfl, by decide, by decide⟩
  · exact ⟨98, [108, 111, 99, 107], rfl, by decide, by decide⟩
  · exact ⟨98, [97, 99, 107, 117, 112], rfl, by decide, by decide⟩
theorem modeF_W {m : Int} (h : m = 1 ∨ m = 2 ∨ m = 3) : ((modeF (modeW m) : Nat) : Int) = m ∧ modeF (modeW m) ≠ 0 := by
  rcases h with rfl | rfl | rfl <;> exact ⟨by decide, by decide⟩
theorem wd_task : Wd sTask := ⟨116, [97, 115, 107], rfl, by decide, by decide⟩
theorem wd_burst : Wd sBurst := ⟨98, [117, 114, 115, 116], rfl, by decide, by decide⟩
theorem most_of {n : Int} (h : 0 ≤ n ∧ n ≤ 1048576) : n.toNat ≤ most := by unfold most; omega
theorem pcs_ok {t : Tk} (h : Fine t) : ∀ p ∈ pcs t, PcOk p := by
  have hs := h.small
  intro p hp
  simp only [pcs, List.mem_cons, List.not_mem_nil, or_false] at hp
  rcases hp with rfl | rfl | rfl | rfl | rfl | rfl | rfl | rfl | rfl | rfl | rfl
  · exact wd_name h.name
  · exact most_of hs.T
  · exact most_of hs.D
  · exact most_of hs.C
  · exact wd_mode hs.Mode
  · exact most_of hs.A
  · exact most_of hs.Seg
  · exact most_of hs.Cost
  · exact most_of hs.M
  · exact most_of hs.K
  · exact most_of hs.Prio
theorem mts_nil {ts : List Tok} (h : Mts ts []) : ts = [] := by
  cases ts with
  | nil => rfl
  | cons t ts => exact absurd h (by simp [Mts])
theorem mts_cons {ts : List Tok} {p : Pc} {ps : List Pc} (h : Mts ts (p :: ps)) : ∃ t us, ts = t :: us ∧ Mt t p ∧ Mts us ps := by
  cases ts with
  | nil => exact absurd h (by simp [Mts])
  | cons t ts => exact ⟨t, ts, rfl, h.1, h.2⟩
theorem back_int {n : Int} (h : 0 ≤ n) : ((n.toNat : Nat) : Int) = n := by omega
theorem back_text (s : ByteArray) : (⟨s.data.toList.toArray⟩ : ByteArray) = s := by cases s; simp
/-- A right task's line is read as that task. -/
theorem run_line {t : Tk} (h : Fine t) (n : Tok) (q : List UInt8) (line col : Nat) (hs : List Tok) (l : List Tk) :
    ∃ x, (lexA (lineW t ++ 10 :: q) line col).2 = (lexA q (line + 1) 1).2 ∧ runT n (lexA (lineW t ++ 10 :: q) line col).1 [] hs l = runT n (lexA q (line + 1) 1).1 [] (hs ++ [x]) (l ++ [t]) := by
  have hsm := h.small
  have e : lineW t ++ 10 :: q = sTask ++ (pcW (pcs t) ++ 10 :: q) := by rw [lineW_pcs hsm]; simp
  obtain ⟨x, ts, c', hx, hts, hl⟩ := lex_line q sTask wd_task (pcs t) (pcs_ok h) line col
  rw [e, hl]
  refine ⟨x, rfl, ?_⟩
  simp only [pcs] at hts
  obtain ⟨t1, ts, rfl, h1, hts⟩ := mts_cons hts
  obtain ⟨t2, ts, rfl, h2, hts⟩ := mts_cons hts
  obtain ⟨t3, ts, rfl, h3, hts⟩ := mts_cons hts
  obtain ⟨t4, ts, rfl, h4, hts⟩ := mts_cons hts
  obtain ⟨t5, ts, rfl, h5, hts⟩ := mts_cons hts
  obtain ⟨t6, ts, rfl, h6, hts⟩ := mts_cons hts
  obtain ⟨t7, ts, rfl, h7, hts⟩ := mts_cons hts
  obtain ⟨t8, ts, rfl, h8, hts⟩ := mts_cons hts
  obtain ⟨t9, ts, rfl, h9, hts⟩ := mts_cons hts
  obtain ⟨ta, ts, rfl, ha, hts⟩ := mts_cons hts
  obtain ⟨tb, ts, rfl, hb, hts⟩ := mts_cons hts
  obtain rfl := mts_nil hts
  have hm := modeF_W hsm.Mode
  have key := runT_all (n := n) (hs := hs) (l := l) [x, t1, t2, t3, t4, t5, t6, t7, t8, t9, ta, tb] (cur := []) (r := ⟨3, [], 0, line, c'⟩ :: (lexA q (line + 1) 1).1) (fun j u hj => by
    rcases j with _ | _ | _ | _ | _ | _ | _ | _ | _ | _ | _ | _ | j
    · cases hj; simp [askT, hx.1, hx.2, kindT]
    · cases hj; simp [askT, h1.1, kindT]
    · cases hj; simp [askT, h2.1, kindT]
    · cases hj; simp [askT, h3.1, kindT]
    · cases hj; simp [askT, h4.1, kindT]
    · cases hj; simp [askT, h5.1, h5.2, kindT, hm.2]
    · cases hj; simp [askT, h6.1, kindT]
    · cases hj; simp [askT, h7.1, kindT]
    · cases hj; simp [askT, h8.1, kindT]
    · cases hj; simp [askT, h9.1, kindT]
    · cases hj; simp [askT, ha.1, kindT]
    · cases hj; simp [askT, hb.1, kindT]
    · simp at hj) (by simp)
  have key' : runT n (x :: ([t1, t2, t3, t4, t5, t6, t7, t8, t9, ta, tb] ++ ⟨3, [], 0, line, c'⟩ :: (lexA q (line + 1) 1).1)) [] hs l = runT n (⟨3, [], 0, line, c'⟩ :: (lexA q (line + 1) 1).1) [x, t1, t2, t3, t4, t5, t6, t7, t8, t9, ta, tb] hs l := key
  rw [key', runT_line (by rfl) (by rfl)]
  have ht : taskOf [x, t1, t2, t3, t4, t5, t6, t7, t8, t9, ta, tb] = t := by
    have w1 : t1.text = t.name.data.toList := h1.2
    have w5 : t5.text = modeW t.Mode := h5.2
    have w2 : t2.value = t.T.toNat := h2.2
    have w3 : t3.value = t.D.toNat := h3.2
    have w4 : t4.value = t.C.toNat := h4.2
    have w6 : t6.value = t.A.toNat := h6.2
    have w7 : t7.value = t.Seg.toNat := h7.2
    have w8 : t8.value = t.Cost.toNat := h8.2
    have w9 : t9.value = t.M.toNat := h9.2
    have wa : ta.value = t.K.toNat := ha.2
    have wb : tb.value = t.Prio.toNat := hb.2
    have : taskOf [x, t1, t2, t3, t4, t5, t6, t7, t8, t9, ta, tb] = ⟨⟨t1.text.toArray⟩, (t2.value : Nat), (t3.value : Nat), (t4.value : Nat), (t6.value : Nat), (t7.value : Nat), (t8.value : Nat), (t9.value : Nat), (ta.value : Nat), (modeF t5.text : Nat), (tb.value : Nat)⟩ := rfl
    rw [this, w1, w2, w3, w4, w5, w6, w7, w8, w9, wa, wb, back_text, hm.1, back_int hsm.T.1, back_int hsm.D.1, back_int hsm.C.1, back_int hsm.A.1, back_int hsm.Seg.1, back_int hsm.Cost.1, back_int hsm.M.1, back_int hsm.K.1, back_int hsm.Prio.1]
  rw [ht]
  rfl
/-- So are all lines. -/
theorem run_lines (n : Tok) : ∀ (r : List Tk) (line : Nat) (hs : List Tok) (l : List Tk), (∀ t ∈ r, Fine t) →
    ∃ hs' e, (lexA (linesW r) line 1).2 = (0, 0, 0) ∧ runT n (lexA (linesW r) line 1).1 [] hs l = .done n hs' (l ++ r) e
  | [], line, hs, l, _ => ⟨hs, ⟨4, [], 0, line, 1⟩, by simp [linesW, lexA_nil], by simp [linesW, lexA_nil, runT]⟩
  | t :: r, line, hs, l, h => by
    obtain ⟨x, h1, h2⟩ := run_line (h t (by simp)) n (linesW r) line 1 hs l
    obtain ⟨hs', e, h3, h4⟩ := run_lines n r (line + 1) (hs ++ [x]) (l ++ [t]) (fun u hu => h u (by simp [hu]))
    refine ⟨hs', e, ?_, ?_⟩
    · rw [linesW, h1, h3]
    · rw [linesW, h2, h4]; simp
/-- What is printed of a right set is read as it was. -/
theorem back {b : Int} {l : List Tk} (h : (whyF b l).1 = 0) : setA (textW b l) = ((b, l), 0, 0, 0) := by
  have hb := ((right_iff b l).1 h).1
  have e : textW b l = sBurst ++ (pcW [.n b.toNat] ++ 10 :: linesW l) := by simp [textW, numsW, pcW, itoa_of (show 0 ≤ b by omega)]
  obtain ⟨x, ts, c', hx, hts, hl⟩ := lex_line (linesW l) sBurst wd_burst [.n b.toNat] (fun p hp => by
    rw [List.mem_singleton.1 hp]; exact most_of ⟨by omega, by omega⟩) 1 1
  obtain ⟨t1, ts, rfl, h1, hts⟩ := mts_cons hts
  obtain rfl := mts_nil hts
  obtain ⟨hs', e', h3, h4⟩ := run_lines t1 l 2 [] [] (fines h)
  have hlx : lex (textW b l) = (x :: t1 :: ⟨3, [], 0, 1, c'⟩ :: (lexA (linesW l) 2 1).1, (lexA (linesW l) 2 1).2) := by
    unfold lex; rw [e, hl]; rfl
  have hv : ((t1.value : Nat) : Int) = b := by
    have : t1.value = b.toNat := h1.2
    rw [this]; omega
  unfold setA
  rw [hlx]
  simp only [h3, if_pos]
  rw [runB_ask0 (by simp [askB, hx.1, hx.2]), runB_ask1 h1.1, runB_line rfl, h4]
  simp only [ofRes, List.nil_append, hv, h, if_pos]
/-- Unlike sets are printed unlike. -/
theorem textW_inj {b b' : Int} {l l' : List Tk} (h : (whyF b l).1 = 0) (h' : (whyF b' l').1 = 0) (e : textW b l = textW b' l') : b = b' ∧ l = l' := by
  have h1 := back h
  rw [e, back h'] at h1
  cases h1
  exact ⟨rfl, rfl⟩
end Go.Proofs.YtbijgmaeechmoaaDoor
