/- At each limit a right task stays right, and one beyond isn't; a task beside itself. -/
import Derived.Test.YtkldpbehjbecnaaPu
import Derived.Test.YtkldpbehjbecnaaRw
namespace Go.Proofs.Ytkldpbehjbecnaa

theorem times_of {t : Tk} (h : bTimes t = false) : timesOk t := by
  by_cases hm : timesOk t
  · exact hm
  · rw [times_bad hm] at h; cases h
theorem mode_of {t : Tk} (h : bMode t = false) : modeOk t := by
  by_cases hm : modeOk t
  · exact hm
  · rw [mode_bad hm] at h; cases h
theorem firm_of {t : Tk} (h : bFirm t = false) : firmOk t := by
  by_cases hm : firmOk t
  · exact hm
  · rw [firm_bad hm] at h; cases h
theorem name_free {t : Tk} (h : nm t.name = true) : bName [] t = false := by simp [bName, hasName, h]
theorem prio_free {t : Tk} (h1 : 0 ≤ t.Prio) (h2 : t.Prio ≤ 255) : bPrio [] t = false := by simp [bPrio, hasPrio, prioIn, h1, h2]
theorem prio_bad {t : Tk} (h2 : 255 < t.Prio) : bPrio [] t = true := by simp [bPrio, hasPrio, prioIn]; omega
theorem bad1_ok {t : Tk} (hn : nm t.name = true) (h2 : timesOk t) (h3 : modeOk t) (h4 : firmOk t) (h5 : 0 ≤ t.Prio) (h6 : t.Prio ≤ 255) : bad1 [] t = 0 :=
  bad1_fine (name_free hn) (times_fine h2) (mode_fine h3) (firm_fine h4) (prio_free h5 h6)
/-- A task that is right by itself. -/
structure Fit (n : ByteArray) (tT tD tC tA tS tc tM tK tO tP : Int) : Prop where
  hn : nm n = true
  h1 : 1 ≤ tC
  h2 : tC ≤ tD
  h3 : tD ≤ tT
  h4 : tT ≤ 1048576
  h5 : 0 ≤ tc
  h6 : tc ≤ 1000
  hm : modeOk ⟨n, tT, tD, tC, tA, tS, tc, tM, tK, tO, tP⟩
  f1 : 1 ≤ tM
  f2 : tM ≤ tK
  f3 : tK ≤ 64
  p1 : 0 ≤ tP
  p2 : tP ≤ 255
section
variable {n : ByteArray} {tT tD tC tA tS tc tM tK tO tP : Int}
theorem Fit.of {b : Int} {l : List Tk} (h : (whyF b l).1 = 0) {i : Nat} (ht : l[i]? = some ⟨n, tT, tD, tC, tA, tS, tc, tM, tK, tO, tP⟩) : Fit n tT tD tC tA tS tc tM tK tO tP := by
  obtain ⟨h1, h2, h3, h4, h5⟩ := alone h ht
  obtain ⟨a1, a2, a3, a4, a5, a6⟩ := times_of h2
  obtain ⟨c1, c2, c3⟩ := firm_of h4
  have hp : 0 ≤ tP ∧ tP ≤ 255 := by simpa [prioIn] using h5
  exact ⟨h1, a1, a2, a3, a4, a5, a6, mode_of h3, c1, c2, c3, hp.1, hp.2⟩
theorem Fit.times (h : Fit n tT tD tC tA tS tc tM tK tO tP) : timesOk ⟨n, tT, tD, tC, tA, tS, tc, tM, tK, tO, tP⟩ := ⟨h.h1, h.h2, h.h3, h.h4, h.h5, h.h6⟩
theorem Fit.firm (h : Fit n tT tD tC tA tS tc tM tK tO tP) : firmOk ⟨n, tT, tD, tC, tA, tS, tc, tM, tK, tO, tP⟩ := ⟨h.f1, h.f2, h.f3⟩
theorem edge_t (h : Fit n tT tD tC tA tS tc tM tK tO tP) : bad1 [] ⟨n, tT, tD, tC, tA, tS, tc, tM, tK, tO, tP⟩ = 0 := bad1_ok h.hn h.times h.hm h.firm h.p1 h.p2
theorem edge_a (h : Fit n tT tD tC tA tS tc tM tK tO tP) : bad1 [] ⟨n, tT, tT + 1, tC, tA, tS, tc, tM, tK, tO, tP⟩ = 4 := bad1_times (name_free h.hn) (times_bad (by unfold timesOk; simp only; omega))
theorem edge_b (h : Fit n tT tD tC tA tS tc tM tK tO tP) : bad1 [] ⟨n, 1048576, tD, tC, tA, tS, tc, tM, tK, tO, tP⟩ = 0 := bad1_ok h.hn ⟨h.h1, h.h2, by have := h.h3; have := h.h4; simp only; omega, by simp, h.h5, h.h6⟩ h.hm h.firm h.p1 h.p2
theorem edge_c (h : Fit n tT tD tC tA tS tc tM tK tO tP) : bad1 [] ⟨n, 1048577, tD, tC, tA, tS, tc, tM, tK, tO, tP⟩ = 4 := bad1_times (name_free h.hn) (times_bad (by unfold timesOk; simp only; omega))
theorem edge_d (h : Fit n tT tD tC tA tS tc tM tK tO tP) : bad1 [] ⟨n, tT, tD, tC, tA, tS, tc, 64, 64, tO, tP⟩ = 0 := bad1_ok h.hn h.times h.hm (by unfold firmOk; simp) h.p1 h.p2
theorem edge_e (h : Fit n tT tD tC tA tS tc tM tK tO tP) : bad1 [] ⟨n, tT, tD, tC, tA, tS, tc, 64, 65, tO, tP⟩ = 6 := bad1_firm (name_free h.hn) (times_fine h.times) (mode_fine h.hm) (firm_bad (by unfold firmOk; simp))
theorem edge_f (h : Fit n tT tD tC tA tS tc tM tK tO tP) : bad1 [] ⟨n, tT, tD, tC, tA, tS, 1000, tM, tK, tO, tP⟩ = 0 := bad1_ok h.hn ⟨h.h1, h.h2, h.h3, h.h4, by simp, by simp⟩ h.hm h.firm h.p1 h.p2
theorem edge_g (h : Fit n tT tD tC tA tS tc tM tK tO tP) : bad1 [] ⟨n, tT, tD, tC, tA, tS, 1001, tM, tK, tO, tP⟩ = 4 := bad1_times (name_free h.hn) (times_bad (by unfold timesOk; simp only; omega))
theorem edge_h (h : Fit n tT tD tC tA tS tc tM tK tO tP) : bad1 [] ⟨n, tT, tD, tC, tA, tS, tc, tM, tK, tO, 255⟩ = 0 := bad1_ok h.hn h.times h.hm h.firm (by simp) (by simp)
theorem edge_k (h : Fit n tT tD tC tA tS tc tM tK tO tP) : bad1 [] ⟨n, tT, tD, tC, tA, tS, tc, tM, tK, tO, 256⟩ = 7 := bad1_prio (name_free h.hn) (times_fine h.times) (mode_fine h.hm) (firm_fine h.firm) (prio_bad (by simp))
theorem nm_zzz : nm ⟨#[122, 122, 122]⟩ = true := by decide +kernel
theorem edge_same (hz : n = ⟨#[122, 122, 122]⟩) (q : Int) : bad1 [⟨n, tT, tD, tC, tA, tS, tc, tM, tK, tO, tP⟩] ⟨⟨#[122, 122, 122]⟩, tT, tD, tC, tA, tS, tc, tM, tK, tO, q⟩ = 3 := bad1_name (by simp [bName, hasName, hz])
theorem edge_u (h : Fit n tT tD tC tA tS tc tM tK tO tP) (hz : n ≠ ⟨#[122, 122, 122]⟩) : bad1 [⟨n, tT, tD, tC, tA, tS, tc, tM, tK, tO, tP⟩] ⟨⟨#[122, 122, 122]⟩, tT, tD, tC, tA, tS, tc, tM, tK, tO, tP⟩ = 7 :=
  bad1_prio (by simp [bName, hasName, nm_zzz, hz]) (times_fine h.times) (mode_fine h.hm) (firm_fine h.firm) (by simp [bPrio, hasPrio])
theorem edge_v (h : Fit n tT tD tC tA tS tc tM tK tO tP) (hz : n ≠ ⟨#[122, 122, 122]⟩) {q : Int} (hq1 : 0 ≤ q) (hq2 : q ≤ 255) (hq : q ≠ tP) : bad1 [⟨n, tT, tD, tC, tA, tS, tc, tM, tK, tO, tP⟩] ⟨⟨#[122, 122, 122]⟩, tT, tD, tC, tA, tS, tc, tM, tK, tO, q⟩ = 0 :=
  bad1_fine (by simp [bName, hasName, nm_zzz, hz]) (times_fine h.times) (mode_fine h.hm) (firm_fine h.firm) (by simp [bPrio, hasPrio, prioIn, hq1, hq2]; omega)
end
end Go.Proofs.Ytkldpbehjbecnaa
