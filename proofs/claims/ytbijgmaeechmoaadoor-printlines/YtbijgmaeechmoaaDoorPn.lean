/- Lines and blanks of what is printed. -/
import Derived.Test.YtbijgmaeechmoaaDoorPr
namespace Go.Proofs.YtbijgmaeechmoaaDoor
open Lx Kx

/-- How many lines' ends. -/
def cnt : List UInt8 → Nat
  | [] => 0
  | c :: r => (if c.toNat = 10 then 1 else 0) + cnt r
/-- Behind p no blank stands behind a blank or a line's end. -/
def okF : UInt8 → List UInt8 → Prop
  | _, [] => True
  | p, c :: r => ¬ (c.toNat = 32 ∧ (p.toNat = 32 ∨ p.toNat = 10)) ∧ okF c r
def Clean (c : UInt8) : Prop := c.toNat ≠ 32 ∧ c.toNat ≠ 10
theorem cnt_append : ∀ (p q : List UInt8), cnt (p ++ q) = cnt p + cnt q
  | [], q => by simp [cnt]
  | c :: p, q => by simp only [List.cons_append, cnt, cnt_append p q]; omega
theorem clean_sign {c : UInt8} (h : signC c = true) : Clean c := by
  simp [signC, smallC, digitC] at h
  exact ⟨by omega, by omega⟩
theorem clean_digit {c : UInt8} (h : digitC c = true) : Clean c := by
  simp [digitC] at h
  exact ⟨by omega, by omega⟩
theorem clean_small {c : UInt8} (h : smallC c = true) : Clean c := by
  simp [smallC] at h
  exact ⟨by omega, by omega⟩
theorem wd_clean {s : List UInt8} (h : Wd s) : s ≠ [] ∧ ∀ c ∈ s, Clean c := by
  obtain ⟨c, p, rfl, hc, hp⟩ := h
  refine ⟨by simp, fun x hx => ?_⟩
  rcases List.mem_cons.1 hx with rfl | hx
  · exact clean_small hc
  · exact clean_sign (hp x hx)
theorem dec_clean (k : Nat) : Lib.decDigits k ≠ [] ∧ ∀ c ∈ Lib.decDigits k, Clean c := by
  obtain ⟨c, p, h⟩ := dec_cons k
  exact ⟨by rw [h]; simp, fun x hx => clean_digit (dec_digit k x hx)⟩
theorem cnt_clean : ∀ {s : List UInt8}, (∀ c ∈ s, Clean c) → cnt s = 0
  | [], _ => rfl
  | c :: s, h => by
    have h1 := (h c (by simp)).2
    rw [cnt, cnt_clean (fun x hx => h x (by simp [hx])), if_neg h1]
/-- Signs that are clean, one at least; then what may stand behind a clean one. -/
theorem ok_word : ∀ {s q : List UInt8}, s ≠ [] → (∀ c ∈ s, Clean c) → (∀ c, Clean c → okF c q) → ∀ p, okF p (s ++ q)
  | [c], q, _, h, hq, p => ⟨fun e => (h c (by simp)).1 e.1, hq c (h c (by simp))⟩
  | c :: d :: s, q, _, h, hq, p => ⟨fun e => (h c (by simp)).1 e.1, ok_word (s := d :: s) (by simp) (fun x hx => h x (List.mem_cons_of_mem _ hx)) hq c⟩
theorem ok_blank {c : UInt8} {q : List UInt8} (hc : Clean c) (hq : okF 32 q) : okF c (32 :: q) := ⟨fun e => by
  rcases e.2 with h | h
  · exact hc.1 h
  · exact hc.2 h, hq⟩
theorem ok_line {c : UInt8} {q : List UInt8} (hq : okF 10 q) : okF c (10 :: q) := ⟨fun e => absurd e.1 (by decide), hq⟩
theorem ok_pcs : ∀ (l : List Pc) {q : List UInt8}, (∀ p ∈ l, PcOk p) → (∀ c, Clean c → okF c q) → ∀ c, Clean c → okF c (pcW l ++ q)
  | [], q, _, hq, c, hc => hq c hc
  | .w s :: l, q, h, hq, c, hc => by
    have hs := wd_clean (h (.w s) (by simp))
    have e : pcW (.w s :: l) ++ q = 32 :: (s ++ (pcW l ++ q)) := by simp [pcW]
    rw [e]
    exact ok_blank hc (ok_word hs.1 hs.2 (ok_pcs l (fun p hp => h p (by simp [hp])) hq) 32)
  | .n k :: l, q, h, hq, c, hc => by
    have hs := dec_clean k
    have e : pcW (.n k :: l) ++ q = 32 :: (Lib.decDigits k ++ (pcW l ++ q)) := by simp [pcW]
    rw [e]
    exact ok_blank hc (ok_word hs.1 hs.2 (ok_pcs l (fun p hp => h p (by simp [hp])) hq) 32)
theorem cnt_pcs : ∀ (l : List Pc), (∀ p ∈ l, PcOk p) → cnt (pcW l) = 0
  | [], _ => rfl
  | .w s :: l, h => by
    rw [pcW, cnt, cnt_append, cnt_clean (wd_clean (h (.w s) (by simp))).2, cnt_pcs l (fun p hp => h p (by simp [hp])), if_neg (by decide)]
  | .n k :: l, h => by
    rw [pcW, cnt, cnt_append, cnt_clean (dec_clean k).2, cnt_pcs l (fun p hp => h p (by simp [hp])), if_neg (by decide)]
theorem lines_ok : ∀ (l : List Tk), (∀ t ∈ l, Fine t) → ∀ p, okF p (linesW l)
  | [], _, _ => trivial
  | t :: l, h, p => by
    have hf := h t (by simp)
    have hw := wd_clean wd_task
    rw [linesW, lineW_pcs hf.small, List.append_assoc]
    exact ok_word hw.1 hw.2 (fun c hc => ok_pcs (pcs t) (pcs_ok hf) (fun d _ => ok_line (lines_ok l (fun u hu => h u (by simp [hu])) 10)) c hc) p
theorem lines_cnt : ∀ (l : List Tk), (∀ t ∈ l, Fine t) → cnt (linesW l) = l.length
  | [], _ => rfl
  | t :: l, h => by
    have hf := h t (by simp)
    have e : cnt sTask = 0 := by decide
    rw [linesW, lineW_pcs hf.small, cnt_append, cnt_append, e, cnt_pcs _ (pcs_ok hf), cnt, lines_cnt l (fun u hu => h u (by simp [hu])), if_pos (by decide)]
    simp; omega
theorem text_pcs {b : Int} {l : List Tk} (h : 0 ≤ b) : textW b l = sBurst ++ (pcW [.n b.toNat] ++ 10 :: linesW l) := by simp [textW, numsW, pcW, itoa_of h]
theorem text_cnt {b : Int} {l : List Tk} (h : (whyF b l).1 = 0) : cnt (textW b l) = l.length + 1 := by
  have hb := ((right_iff b l).1 h).1
  have e : cnt sBurst = 0 := by decide
  rw [text_pcs (by omega), cnt_append, cnt_append, e, cnt_pcs _ (fun p hp => by rw [List.mem_singleton.1 hp]; exact most_of ⟨by omega, by omega⟩), cnt, lines_cnt l (fines h), if_pos (by decide)]
  omega
theorem text_ok {b : Int} {l : List Tk} (h : (whyF b l).1 = 0) (p : UInt8) : okF p (textW b l) := by
  have hb := ((right_iff b l).1 h).1
  have hw := wd_clean wd_burst
  rw [text_pcs (by omega)]
  exact ok_word hw.1 hw.2 (fun c hc => ok_pcs [.n b.toNat] (fun p hp => by rw [List.mem_singleton.1 hp]; exact most_of ⟨by omega, by omega⟩) (fun d _ => ok_line (lines_ok l (fines h) 10)) c hc) p
theorem ok_at : ∀ {x : List UInt8} {p : UInt8} (i : Nat) {a c : UInt8}, okF p x → x[i]? = some a → x[i + 1]? = some c → ¬ (c.toNat = 32 ∧ (a.toNat = 32 ∨ a.toNat = 10))
  | [], p, i, a, c, _, h1, _ => by simp at h1
  | d :: x, p, 0, a, c, h, h1, h2 => by
    have : d = a := by simpa using h1
    subst this
    cases x with
    | nil => simp at h2
    | cons e x =>
      have : e = c := by simpa using h2
      subst this
      exact h.2.1
  | d :: x, p, i + 1, a, c, h, h1, h2 => ok_at i h.2 (by simpa using h1) (by simpa using h2)
theorem cnt_next {x : List UInt8} {k : Nat} {c : UInt8} (h : x[k]? = some c) : cnt (x.take (k + 1)) = cnt (x.take k) + (if c.toNat = 10 then 1 else 0) := by
  rw [List.take_add_one, h, cnt_append]; simp [cnt]
theorem cnt_le : ∀ x : List UInt8, cnt x ≤ x.length
  | [] => Nat.le_refl _
  | c :: x => by have := cnt_le x; simp only [cnt, List.length_cons]; split <;> omega
end Go.Proofs.YtbijgmaeechmoaaDoor
