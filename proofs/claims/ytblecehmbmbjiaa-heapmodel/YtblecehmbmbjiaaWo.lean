/- The statements' own row of keys without one. -/
import Derived.Test.YtblecehmbmbjiaaPt
namespace Go.Proofs.Ytblecehmbmbjiaa
open Go.RowKit

set_option maxRecDepth 100000 in
set_option maxHeartbeats 4000000 in
theorem refWithout (m : List Ky) (n q b off c : Nat) {w : World} (hn : m.length = n) (hl : n ≤ 1000) (hq : q < n) (hk : Keys w (some ⟨b, off, none⟩) c m) (hc : c ≤ 9223372036854775807) :
    Calls Try.prog 16 #[.slice (some ⟨b, off, none⟩) n c, .int .i64 (q : Int)] w (Rows1 (n - 1) (m.eraseIdx q) w) := by
  have hnc : n ≤ c := by rw [← hn]; exact hk.le
  have HE := Lib.hid (List.eraseIdx_eq_take_drop_succ m q)
  obtain ⟨q1, hq1⟩ : ∃ q1, q1 = q + 1 := ⟨_, rfl⟩
  rw [← hq1] at HE
  obtain ⟨N, hN⟩ : ∃ N, N = n - 1 := ⟨_, rfl⟩
  rw [← hN]
  have hw : IntKind.i64.wrap ((q : Int) + 1) = (q1 : Int) := by rw [IntWalk.i64_in _ ⟨by omega, by omega⟩]; omega
  obtain ⟨ZT, hZT⟩ : ∃ ZT, ZT = m.take q := ⟨_, rfl⟩
  obtain ⟨ZD, hZD⟩ : ∃ ZD, ZD = m.drop q1 := ⟨_, rfl⟩
  rw [← hZT, ← hZD] at HE
  have HZT := Lib.hid (show ZT.length = q by rw [hZT, List.length_take, hn] <;> omega)
  have HZD := Lib.hid (show ZD.length = n - q1 by rw [hZD, List.length_drop, hn])
  have RT : Hid (Keys w (some ⟨b, off, none⟩) c ZT) := by rw [hZT]; exact hk.take q
  have q2 : q ≤ c := by omega
  have q3 : q ≤ n := by omega
  have q4 : q1 ≤ c := by omega
  have q5 : q1 ≤ n := by omega
  have p1 : (0 : Int) ≤ (q : Int) := by omega
  have p2 : (q : Int) ≤ (c : Int) := by omega
  have p3 : (0 : Int) ≤ (q1 : Int) := by omega
  have p4 : (q1 : Int) ≤ (n : Int) := by omega
  have p5 : (n : Int) ≤ (c : Int) := by omega
  by_cases hcq : c = q1
  · have hqn : n = q1 := by omega
    subst hcq hqn
    have RD : Hid (Keys w (some ⟨b, off, none⟩) 0 ZD) := by
      rw [hZD, List.drop_eq_nil_of_le (by rw [hn]; omega)]; exact keys_none _ _ _
    have HZD0 := Lib.hid (show ZD.length = 0 by have := HZD.out; omega)
    have HQN := Lib.hid (show q = N by omega)
    have HQ2 := Lib.hid (show q + 0 = N by omega)
    have hN2 : N ≤ 2000 := by omega
    have hq2 : q ≤ 2000 := by omega
    clear hZT hZD hn hk HZD hq1 hN
    go_enter Try.func16, Try.ntmps16
    go_wp2
    go_region_held3 (fun _ => True) (exact trivial)
      (first
        | (refine step_append_old (by rfl) (.tmp 5) (.tmp 8) (by rfl) w _ 0 q _ 0 q [] ZT (some ⟨b, off, none⟩) (by rfl) (by rfl) (by with_reducible exact GrowsQ.drew (grows_n0 _)) HZT.out RT.out (by omega) hq2 ?_; intro A2 c2 w2 hp2)
        | (refine step_append_old (by rfl) (.tmp 9) (.tmp 13) (by rfl) w A2 q 0 0 c2 N ([] ++ ZT) ZD (some ⟨b, off, none⟩) (by rfl) (by rfl) hp2.grows HZD0.out RD.out HQ2.out hN2 ?_; intro A3 c3 w3 hp3))
    all_goals
      have HG := Lib.hid hp3.grows
      rw [List.nil_append, ← HE.out] at HG
      clear hp2 hp3
      go_wp2
      go_ret
      exact ⟨A3, c3, rfl, HG.out⟩
  · have RD : Hid (Keys w (some ⟨b, off + q1 * 4, none⟩) (c - q1) ZD) := by
      rw [hZD]; exact hk.drop q1 (c - q1) (by rw [hn]; omega)
    have HQ2 := Lib.hid (show q + (n - q1) = N by omega)
    have hN2 : N ≤ 2000 := by omega
    have hq2 : q ≤ 2000 := by omega
    clear hZT hZD hn hk hq1 hN
    go_enter Try.func16, Try.ntmps16
    go_wp2
    go_region_held3 (fun _ => True) (exact trivial)
      (first
        | (refine step_append_old (by rfl) (.tmp 5) (.tmp 8) (by rfl) w _ 0 q c 0 q [] ZT (some ⟨b, off, none⟩) (by rfl) (by rfl) (by with_reducible exact GrowsQ.drew (grows_n0 _)) HZT.out RT.out (by omega) hq2 ?_; intro A2 c2 w2 hp2)
        | (refine step_append_old (by rfl) (.tmp 9) (.tmp 13) (by rfl) w A2 q (n - q1) (c - q1) c2 N ([] ++ ZT) ZD (some ⟨b, off + q1 * 4, none⟩) (by rfl) (by rfl) hp2.grows HZD.out RD.out HQ2.out hN2 ?_; intro A3 c3 w3 hp3))
    all_goals
      have HG := Lib.hid hp3.grows
      rw [List.nil_append, ← HE.out] at HG
      clear hp2 hp3
      go_wp2
      go_ret
      exact ⟨A3, c3, rfl, HG.out⟩
end Go.Proofs.Ytblecehmbmbjiaa
