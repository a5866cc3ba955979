/- Rows of two cells, laid into a slice at a place: there is room behind it. -/
import Derived.Test.YtlodfipiodlgdaaGk
import Derived.Deep.AppendLies
import Derived.Laws.OwnMore
import Derived.Laws.CopyRow
import Derived.Lib.Overlaps
import Derived.Shelf.Spec.SlicesInsert
namespace Go.Proofs.Ytlodfipiodlgdaa
open Go.RowKit

theorem rowInfo' : ((Try.prog.info? 60).map fun i => (i.zero, i.size, i.bytes)) = some (some (.agg #[.int .i64 0, .int .i64 0]), 2, 16) := by kernel_rfl
theorem rowInfo : ∃ i, Try.prog.info? 60 = some i ∧ i.zero = some (.agg #[.int .i64 0, .int .i64 0]) ∧ i.size = 2 ∧ i.bytes = 16 := by
  obtain ⟨i, hi, h⟩ := Option.map_eq_some_iff.1 rowInfo'
  simp only [Prod.mk.injEq] at h
  exact ⟨i, hi, h.1, h.2.1, h.2.2⟩

/-- A row behind a copy of rows. -/
theorem run_copy_rows (w : World) (ty : TypeId) (g o dLen dCap : Nat) (a : Addr) (sLen sCap n : Nat) (cur : Array Value) (cs : List Value)
    (hg : Lies w g 60 cur) (hm : Nat.min sLen dLen = n) (hn : cs.length = n * 2)
    (hsrc : ∀ j v, cs[j]? = some v → w.cell? (a.add j) = some v) (hfit : o + cs.length ≤ cur.size) (h1 : ∀ v ∈ cs, v.oneCell' = true) :
    (Builtin.copy_ #[52, 52] ty #[.slice (some ⟨g, o, none⟩) dLen dCap, .slice (some a) sLen sCap]).run Try.prog w =
      .ok (goInt n) (w.setRow g (cur.toList.take o ++ cs ++ cur.toList.drop (o + cs.length)).toArray) := by
  obtain ⟨i, hi, _, hs, _⟩ := rowInfo
  have hl := run_loadCells_list (P := Try.prog) w a cs hsrc
  have hst := run_storeCells_at Try.prog g o 60 cs 0 cur w hg (by simpa using hfit) h1
  rw [hn] at hl
  simp [Builtin.copy_, run_underlying Try.underlying52, Builtin.lenOf, Builtin.firstCells, sizeOf, typeInfo, hi, hs, hm, hl, hst]


theorem apart {w : World} {g vb off k lb cb : Nat} {x y : Value} {cur : Array Value} (hv : Lies w vb 60 #[x, y]) (hg : Lies w g 60 cur) (hk : cur.size = k) (h0 : k ≠ 0) (hne : vb ≠ g) :
    (callFunc 31 #[.slice (some ⟨vb, 0, none⟩) 1 1, .slice (some ⟨g, off, none⟩) lb cb]).run Try.prog w = .ok (.value (.bool false)) w := by
  rw [run_callFunc_extern Try.func31 (by kernel_rfl) (by kernel_rfl) (by kernel_rfl) (e := Extern.SlicesOverlaps.overlaps #[52, 52] #[4]) (by kernel_rfl),
    Lib.run_overlaps_apart w 52 4 60 Try.underlying52 2 Try.sizeOf60 ⟨vb, 0, none⟩ ⟨g, off, none⟩ 1 1 lb cb hne 60 60 2 k (by unfold Lies at hv; simp [World.shape?, hv]) (by unfold Lies at hg; simp [World.shape?, hg, hk]) h0 (hv.thawed 0) (hv.thawed 2)]
  rfl

/-- The slice behind an insert. -/
def Inserts (B : Nat) (g0 : Option Nat) (n : Nat) (cells : List Value) (w : World) (e : Ending) (w' : World) : Prop :=
  ∃ g cap, e = .returned (.slice (some ⟨g, 0, none⟩) n cap) ∧ w'.ownsRow B 60 2 (.slice (some ⟨g, 0, none⟩) n cap) n cells ∧ Turns (fun k => g0 = some k) w w' ∧ (g0 = some g ∨ w.heap.size ≤ g)

set_option maxHeartbeats 1000000 in
theorem insert_end {B n : Nat} {v x y : Value} {cs : List Value} {vb : Nat} {w : World} (hB : B ≤ w.heap.size) (hn : n ≤ 2000) (ho : w.ownsRow B 60 2 v n cs) (hv : Lies w vb 60 #[x, y])
    (hx : x.oneCell' = true) (hy : y.oneCell' = true) :
    Calls Try.prog 25 #[v, .int .i64 (n : Int), .slice (some ⟨vb, 0, none⟩) 1 1] w (Inserts B v.ownBlock (n + 1) (cs ++ [x, y]) w) := by
  obtain ⟨i0, hi, hz, hs, hb⟩ := rowInfo
  obtain ⟨ob, hob⟩ : ∃ ob, ob = v.ownBlock := ⟨_, rfl⟩
  rw [← hob]
  obtain ⟨a, c, rfl⟩ : ∃ a c, v = .slice a n c := by
    rcases ho.2 with ⟨rfl, rfl⟩ | ⟨g, cap, cur, rfl, _⟩
    · exact ⟨none, 0, rfl⟩
    · exact ⟨_, cap, rfl⟩
  have HOB := Lib.hid hob
  clear hob
  have HI := Lib.hid hi
  have HZ := Lib.hid hz
  have HS := Lib.hid hs
  have HB := Lib.hid hb
  have HO := Lib.hid ho
  have HN := Lib.hid (World.news_of_block hv)
  have H1 : Hid (∀ u ∈ [x, y], u.oneCell' = true) := fun u hu => by
    rcases List.mem_cons.1 hu with rfl | hu
    · exact hx
    · rw [List.mem_singleton.1 hu]; exact hy
  clear hi hz hs hb ho hv hx hy
  go_enter Try.func25, Try.ntmps25
  go_wp2_with (at_builtin; refine wpList_append_lies _ rfl _ _ 52 rfl B 60 i0 _ 2 16 Try.underlying52 HI.out HZ.out HS.out HB.out rfl (by omega) (.slice a n c) n cs rfl HO.out ⟨vb, 0, none⟩ 1 1 [x, y] rfl rfl HN.out H1.out (by omega) (by unfold maxLen; omega) (by omega) hB w.heap.size rfl ?_; intro g cap w1 hown hgrow hat hlt)
  all_goals
    rw [← HOB.out] at hgrow hat
    go_ret
    refine ⟨g, cap, rfl, hown, ⟨hgrow.os, hgrow.tape, hgrow.output, hgrow.size, fun k hk hne => hgrow.block k hk (fun e => hne e.symm)⟩, ?_⟩
    rcases hat with h | h
    · exact .inl h
    · exact .inr (by omega)

theorem Inserts.shift {B g cap n i : Nat} {x y : Value} {cs : List Value} {cur : Array Value} {w : World} (hbg : B ≤ g) (hc : cap ≤ maxLen) (hroom : n + 1 ≤ cap) (hi : i ≤ n) (hg : Lies w g 60 cur) (hsz : cur.size = cap * 2) (ht : cur.toList.take (n * 2) = cs) :
    ∃ mid, mid = ((cur.toList.take ((i + 1) * 2) ++ cs.drop (i * 2) ++ cur.toList.drop ((i + 1) * 2 + (cs.drop (i * 2)).length)).toArray) ∧
      ((w.setRow g mid).setRow g ((mid.toList.take (i * 2) ++ [x, y] ++ mid.toList.drop (i * 2 + 2)).toArray)).ownsRow B 60 2 (.slice (some ⟨g, 0, none⟩) (n + 1) cap) (n + 1) (cs.take (i * 2) ++ [x, y] ++ cs.drop (i * 2)) := by
  refine ⟨_, rfl, ?_⟩
  have hlen : cs.length = n * 2 := by rw [← ht, List.length_take, Array.length_toList, hsz]; omega
  have hcl : cur.toList.length = cap * 2 := by rw [Array.length_toList, hsz]
  refine ⟨by simp [hlen]; omega, .inr ⟨g, cap, _, rfl, hbg, setRow_heap _ g _ _ 60 (0, 0) (setRow_heap w g _ _ 60 (0, 0) hg), hroom, hc, ?_, ?_⟩⟩
  · simp [hcl, hlen]; omega
  · have e1 : ((i + 1) * 2) = i * 2 + 2 := by omega
    have hdl : (cs.drop (i * 2)).length = n * 2 - i * 2 := by rw [List.length_drop, hlen]
    have hct : cur.toList.take (i * 2) = cs.take (i * 2) := by rw [← ht, List.take_take]; congr 1; omega
    rw [e1]
    have t1 : (cur.toList.take (i * 2 + 2) ++ cs.drop (i * 2) ++ cur.toList.drop (i * 2 + 2 + (cs.drop (i * 2)).length)).take (i * 2) = cs.take (i * 2) := by
      rw [List.append_assoc, List.take_append_of_le_length (by rw [List.length_take, hcl]; omega), List.take_take, ← hct]
      congr 1; omega
    have t2 : (cur.toList.take (i * 2 + 2) ++ cs.drop (i * 2) ++ cur.toList.drop (i * 2 + 2 + (cs.drop (i * 2)).length)).drop (i * 2 + 2) = cs.drop (i * 2) ++ cur.toList.drop (i * 2 + 2 + (cs.drop (i * 2)).length) := by
      rw [List.append_assoc, List.drop_append_of_le_length (by rw [List.length_take, hcl]; omega), List.drop_of_length_le (by rw [List.length_take]; omega), List.nil_append]
    rw [t1, t2, ← List.append_assoc]
    exact List.take_left' (by simp [hlen]; omega)
end Go.Proofs.Ytlodfipiodlgdaa
