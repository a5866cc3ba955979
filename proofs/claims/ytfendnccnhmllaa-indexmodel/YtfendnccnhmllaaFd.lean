/- A name's number, a number's name. -/
import Derived.Test.YtfendnccnhmllaaPl
namespace Go.Proofs.Ytfendnccnhmllaa
open Go.RowKit

theorem nodup_at {xs : List ByteArray} (h : xs.Nodup) {i j : Nat} {a : ByteArray} (hi : xs[i]? = some a) (hj : xs[j]? = some a) : i = j := by
  obtain ⟨h1, e1⟩ := List.getElem?_eq_some_iff.1 hi
  obtain ⟨h2, e2⟩ := List.getElem?_eq_some_iff.1 hj
  rcases Nat.lt_trichotomy i j with hlt | he | hlt
  · exact absurd (e1.trans e2.symm) (List.pairwise_iff_getElem.1 h i j h1 h2 hlt)
  · exact he
  · exact absurd (e2.trans e1.symm) (List.pairwise_iff_getElem.1 h j i h2 h1 hlt)

section
variable {S : Nat → Prop} {B p room : Nat} {xs : List ByteArray} {w : World}
set_option maxHeartbeats 400000 in
theorem find_no (s : ByteArray) (hs : s ∉ xs) (h : Idx S B w p room xs) :
    Calls Try.prog 14 #[.pointer (some ⟨p, 0, none⟩), .string s] w (Saw (.tuple #[.int .i64 0, .bool false]) w) := by
  have HP := Lib.hid (place s false (by simp [hs]) h)
  clear h
  go_enter Try.func14, Try.ntmps14
  go_wp2_with (fail)
  with_reducible refine HP.out.mono ?_
  rintro e w' ⟨rfl, m, rfl⟩
  go_wp2
  go_ret2
  exact ⟨rfl, m, rfl⟩

set_option maxHeartbeats 400000 in
theorem find_yes (s : ByteArray) (k : Nat) (hk : xs[k]? = some s) (h : Idx S B w p room xs) :
    Calls Try.prog 14 #[.pointer (some ⟨p, 0, none⟩), .string s] w (Saw (.tuple #[.int .i64 (k : Int), .bool true]) w) := by
  have hs : s ∈ xs := List.mem_of_getElem? hk
  have HP := Lib.hid (place s true (by simp [hs]) h)
  obtain ⟨vn, vr, rows, hp, hn, hr, ht, h1, h2⟩ := h.body
  have hlen := h.len
  have hroom := h.r2
  obtain ⟨a, cap, rfl, hcap, hat⟩ := own_form hr
  obtain ⟨j, hj, hjs⟩ := ht.hit hs
  have hjk : j = k := nodup_at ht.nodup hjs hk
  subst hjk
  obtain ⟨q, hq⟩ : ∃ q, q = pos s (srt xs) := ⟨_, rfl⟩
  rw [← hq] at HP hj
  have hql : q < xs.length := by have := (List.getElem?_eq_some_iff.1 hj).1; rw [ht.len] at this; exact this
  obtain ⟨g, rfl, hc⟩ := hat (by omega)
  have cn := hc _ _ (flat_num hj)
  have c2 : w.cell? ⟨p, 2, none⟩ = some (.slice (some ⟨g, 0, none⟩) xs.length cap) := by rw [hp.cell]; rfl
  clear hc hat hp hn hr ht h hj hjs hk hs hq h1 h2
  go_enter Try.func14, Try.ntmps14
  go_wp2_with (fail)
  with_reducible refine HP.out.mono ?_
  rintro e w' ⟨rfl, m, rfl⟩
  go_wp2
  go_ret2
  exact ⟨rfl, m, rfl⟩

set_option maxHeartbeats 400000 in
theorem name_no (i : Int) (hi : i < 0 ∨ (xs.length : Int) ≤ i) (h : Idx S B w p room xs) :
    Calls Try.prog 15 #[.pointer (some ⟨p, 0, none⟩), .int .i64 i] w (Says (.tuple #[.string ⟨#[]⟩, .bool false]) w) := by
  obtain ⟨vn, vr, rows, hp, hn, hr, ht, h1, h2⟩ := h.body
  obtain ⟨a, cap, rfl, hcap, hat⟩ := own_form hn
  have c1 : w.cell? ⟨p, 1, none⟩ = some (.slice a xs.length cap) := by rw [hp.cell]; rfl
  clear hat hp hn hr ht h h1 h2
  rcases hi with hi | hi
  · go_enter Try.func15, Try.ntmps15
    go_wp2
    go_ret2
    exact ⟨rfl, rfl⟩
  · have t1 : decide (i < 0) = false := by simp; omega
    have t2 : decide ((xs.length : Int) ≤ i) = true := by simp; omega
    go_enter Try.func15, Try.ntmps15
    go_wp2
    go_ret2
    exact ⟨rfl, rfl⟩

set_option maxHeartbeats 400000 in
theorem name_yes (k : Nat) (s : ByteArray) (hk : xs[k]? = some s) (h : Idx S B w p room xs) :
    Calls Try.prog 15 #[.pointer (some ⟨p, 0, none⟩), .int .i64 (k : Int)] w (Says (.tuple #[.string s, .bool true]) w) := by
  obtain ⟨vn, vr, rows, hp, hn, hr, ht, h1, h2⟩ := h.body
  have hkl := (List.getElem?_eq_some_iff.1 hk).1
  have hlen := h.len
  have hroom := h.r2
  obtain ⟨a, cap, rfl, hcap, hat⟩ := own_form hn
  obtain ⟨g, rfl, hc⟩ := hat (by omega)
  have ck := hc k (.string s) (by rw [List.getElem?_map, hk]; rfl)
  have c1 : w.cell? ⟨p, 1, none⟩ = some (.slice (some ⟨g, 0, none⟩) xs.length cap) := by rw [hp.cell]; rfl
  clear hc hat hp hn hr ht h hk h1 h2
  have t1 : decide ((k : Int) < 0) = false := by simp
  have t2 : decide ((xs.length : Int) ≤ (k : Int)) = false := by simp; omega
  have t3 : decide (xs.length ≤ k) = false := by simp; omega
  go_enter Try.func15, Try.ntmps15
  go_wp2
  go_ret2
  exact ⟨rfl, rfl⟩
end
end Go.Proofs.Ytfendnccnhmllaa
