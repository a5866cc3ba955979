/- All names of a table, rising, in memory of their own. -/
import Derived.Test.YtfendnccnhmllaaPu
namespace Go.Proofs.Ytfendnccnhmllaa
open Go.RowKit

/-- The texts l, in a row that is new. -/
def Alls (l : List ByteArray) (w : World) (e : Ending) (w' : World) : Prop :=
  ∃ b cap, e = .returned (.slice (some ⟨b, 0, none⟩) l.length cap) ∧ w'.ownsRow w.heap.size 9 1 (.slice (some ⟨b, 0, none⟩) l.length cap) l.length (l.map Value.string) ∧ Below w.heap.size w w'
def AllRel (l : List ByteArray) (w : World) (v i : Value) (W : World) : Prop :=
  ∃ k b cap, k ≤ l.length ∧ v = .slice (some ⟨b, 0, none⟩) k cap ∧ i = .int .i64 ((k : Nat) : Int) ∧ W.ownsRow w.heap.size 9 1 (.slice (some ⟨b, 0, none⟩) k cap) k ((l.take k).map Value.string) ∧ Below w.heap.size w W

set_option maxRecDepth 100000 in
set_option maxHeartbeats 2000000 in
theorem sorted {S : Nat → Prop} {B p room : Nat} {xs : List ByteArray} {w : World} (h : Idx S B w p room xs) :
    Calls Try.prog 17 #[.pointer (some ⟨p, 0, none⟩)] w (Alls (srt xs) w) := by
  obtain ⟨i0, hi0, hz0, hs0, hb0⟩ := textInfo
  have hlen := h.len
  have hroom := h.r2
  have hplt : p < w.heap.size := (h.inS p h.sp).2
  obtain ⟨vn, vr, rows, hp, hn, hr, ht, h1, h2⟩ := h.body
  have HR := Lib.hid hr
  obtain ⟨a, cap, rfl, hcap, hat⟩ := own_form hr
  have c2 : w.cell? ⟨p, 2, none⟩ = some (.slice a xs.length cap) := by rw [hp.cell]; rfl
  have hrl := ht.len
  have hsl := length_srt xs
  have HSL := Lib.hid hsl
  have HT := Lib.hid ht
  have hmk : ∀ W : World, (Instr.makeSlice 22 (.int .i64 0) (.int .i64 (xs.length : Int))).run Try.prog W = .ok (.slice (some ⟨W.heap.size, 0, none⟩) 0 xs.length) (W.alloc (.cells (madeCells (Value.string ⟨#[]⟩).cells xs.length) 9)) := by
    intro W
    have := run_make (P := Try.prog) W 22 9 i0 (Value.string ⟨#[]⟩) Try.underlying22 hi0 hz0 .i64 .i64 0 xs.length (by omega) (by omega) (by rw [hb0]; omega) (by omega)
    rw [hs0] at this
    simpa using this
  have HM : ∀ W : World, (W.alloc (.cells (madeCells (Value.string ⟨#[]⟩).cells xs.length) 9)).ownsRow W.heap.size 9 1 (.slice (some ⟨W.heap.size, 0, none⟩) 0 xs.length) 0 [] :=
    fun W => World.ownsRow_made W _ _ (Nat.le_refl _) (by unfold maxLen; omega) (by simp [size_madeCells])
  have HM' := Lib.hid HM
  have HI := Lib.hid hi0
  have HZ := Lib.hid hz0
  have HS := Lib.hid hs0
  have HB := Lib.hid hb0
  have hp2 := HR.out
  have HAT : Hid (∀ W, Below w.heap.size w W → 0 < xs.length → ∃ g, a = some ⟨g, 0, none⟩ ∧ g < w.heap.size ∧ ∀ j u, (flat rows)[j]? = some u → W.cell? ⟨g, j, none⟩ = some u) := by
    intro W hW h0
    obtain ⟨g, rfl, hc⟩ := hat h0
    have hg := (own_lt HR.out rfl).2
    exact ⟨g, rfl, hg, fun j u hu => (hW.cell (p := ⟨g, j, none⟩) hg).trans (hc j u hu)⟩
  clear hp hn hr ht h hat hi0 hz0 hs0 hb0 h1 h2 HM hsl hp2 HR
  go_enter Try.func17, Try.ntmps17
  go_wp2
  clear hmk
  go_loopw [3, 17] (fun v i W => AllRel (srt xs) w v i W) (fun _ i _ => xs.length - (intOf i).toNat)
  case atStart => exact ⟨0, w.heap.size, xs.length, Nat.zero_le _, rfl, rfl, HM'.out w, (Below.refl _ _).alloc (Nat.le_refl _) _⟩
  case round =>
    obtain ⟨k, b, cap', hk, rfl, rfl, ho, hb⟩ := hrel
    rw [HSL.out] at hk
    have HO := Lib.hid ho
    have HBW := Lib.hid hb
    clear ho hb
    by_cases hlt : k < xs.length
    · have t1 : decide ((k : Int) < (xs.length : Int)) = true := by simp; omega
      obtain ⟨g, rfl, hg, hc⟩ := HAT.out wr HBW.out (by omega)
      have hr : rows[k]? = some rows[k] := List.getElem?_eq_getElem (by omega)
      have ck := hc _ _ (flat_name hr)
      have cn := hc _ _ (flat_num hr)
      have HSK := Lib.hid (HT.out.at_ hr)
      clear hc hr
      generalize rows[k] = y at ck cn HSK
      obtain ⟨y, j⟩ := y
      simp only at ck cn HSK
      have hsz := HBW.out.size
      have NEW := Lib.hid (World.news_of_block (w := (wr.alloc (.cells #[.string y, .int .i64 (j : Int)] 50)).alloc (.cells #[.string y] 9)) (B := wr.heap.size + 1) (cs := #[.string y]) (t := 9) (fr := (0, 0)) (by
        have := heap_alloc_new (wr.alloc (.cells #[.string y, .int .i64 (j : Int)] 50)) (.cells #[.string y] 9)
        simpa using this))
      go_wp2_with (
        at_builtin
        refine wpList_append_lies _ rfl _ _ 22 rfl w.heap.size 9 i0 _ 1 16 Try.underlying22 HI.out HZ.out HS.out HB.out rfl (by omega) (.slice (some ⟨b, 0, none⟩) k cap') k (((srt xs).take k).map .string) rfl ((HO.out.alloc _).alloc _) ⟨wr.heap.size + 1, 0, none⟩ 1 1 [.string y] rfl rfl NEW.out (by simp [Value.oneCell']) (by omega) (by unfold maxLen; omega) (by omega) (by simp; omega) (wr.heap.size + 2) (by simp) ?_
        intro b1 cap1 w1 hown1 hgrow hat hlt1
        have HB1 : Hid (Below w.heap.size w w1) := Below.grown ((HBW.out.alloc hsz _).alloc (by simp; omega) _) hgrow (by simp; omega) (fun q hq => by
          have : b = q := by simpa [Value.ownBlock] using hq
          subst this
          exact (HO.out.lt b rfl).1)
        have HO1 : Hid (w1.ownsRow w.heap.size 9 1 (.slice (some ⟨b1, 0, none⟩) (k + 1) cap1) (k + 1) (((srt xs).take (k + 1)).map .string)) := by
          have hnext : ((srt xs).take k).map Value.string ++ [.string y] = ((srt xs).take (k + 1)).map Value.string := by
            rw [List.take_add_one, HSK.out]; simp
          rw [hnext] at hown1
          exact hown1
        clear hown1 hgrow hat)
      go_roundw
      case rel => exact ⟨k + 1, b1, cap1, by rw [HSL.out]; omega, rfl, by go_num, HO1.out, HB1.out⟩
      case measure => simp [intOf]; omega
    · have t1 : decide ((k : Int) < (xs.length : Int)) = false := by simp; omega
      have t2 : decide (k < xs.length) = false := by simp; omega
      obtain rfl : k = xs.length := by omega
      have HO1 : Hid (wr.ownsRow w.heap.size 9 1 (.slice (some ⟨b, 0, none⟩) (srt xs).length cap') (srt xs).length ((srt xs).map .string)) := by
        have := HO.out
        rw [List.take_of_length_le (by rw [HSL.out]; exact Nat.le_refl _)] at this
        rw [HSL.out]
        exact this
      go_wp2
      go_ret
      exact ⟨b, cap', by rw [HSL.out]; rfl, HO1.out, HBW.out⟩
end Go.Proofs.Ytfendnccnhmllaa
