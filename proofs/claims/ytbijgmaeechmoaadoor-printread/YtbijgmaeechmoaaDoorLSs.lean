/- The reader's step: the piece that begins at the next byte. -/
import Derived.Test.YtbijgmaeechmoaaDoorLSt
namespace Go.Proofs.YtbijgmaeechmoaaDoor.Lx
open Go.RowKit
set_option maxRecDepth 100000

theorem Rdr.hop {w0 w : World} {g : Nat} {a : Option Addr} {len cap i line beg : Nat} {ts : List Tok} (h : Rdr w0 g a len cap i line beg ts w) (m n : Nat) (hn : i + n ≤ 1000000) : Rdr w0 g a len cap (i + n) line beg ts ((w.drewN m).setCell ⟨g, 1, none⟩ (.int .i64 (IntKind.i64.wrap ((i : Int) + (n : Int))))) := by
  rw [IntWalk.i64_in _ ⟨by omega, by omega⟩]
  have := (h.drewN m).goto (i + n)
  simpa using this
/-- Behind a step: it stands further on, or where it stood, with an error. -/
def Steps (l : List UInt8) (w0 : World) (g : Nat) (a : Option Addr) (cap i line beg : Nat) (ts : List Tok) (e : Ending) (w' : World) : Prop :=
  (e = .returned (.int .i64 0) ∧ ∃ ts' i' line' beg', Goes l ts' i' line' beg' ∧ i < i' ∧ Rdr w0 g a l.length cap i' line' beg' ts' w') ∨
  (∃ n : Nat, n ≠ 0 ∧ e = .returned (.int .i64 (n : Int)) ∧ Rdr w0 g a l.length cap i line beg ts w' ∧ ans l = [] ∧ (lex l).2 = (n, line, i - beg + 1))

set_option maxRecDepth 100000 in
set_option maxHeartbeats 8000000 in
theorem step (l : List UInt8) (w0 : World) (g b off cap i line beg : Nat) (ts : List Tok) {w : World} (hl : l.length ≤ 1000000) (hi : i < l.length) (hgo : Goes l ts i line beg)
    (hb : Bytes w0 (some ⟨b, off, none⟩) cap l) (h : Rdr w0 g (some ⟨b, off, none⟩) l.length cap i line beg ts w) :
    Calls Tryd.prog 37 #[.pointer (some ⟨g, 0, none⟩)] w (Steps l w0 g (some ⟨b, off, none⟩) cap i line beg ts) := by
  have hgo' := hgo
  obtain ⟨_, hbi, _, hli, htl, _⟩ := hgo'
  have hts : ts.length ≤ 1000000 := by omega
  obtain ⟨b', off', e', _, hc⟩ := (h.bytes hb).at_ (by have := hb.le; omega)
  cases e'
  have hx : l[i]? = some l[i] := List.getElem?_eq_getElem hi
  have ck := hc i _ hx
  have hd : l.drop i = l[i] :: l.drop (i + 1) := List.drop_eq_getElem_cons hi
  have HH := Lib.hid h
  have HB := Lib.hid hb
  have HG := Lib.hid hgo
  have c0 := h.c0
  have c1 := h.c1
  clear hc hx h hb hgo
  generalize l[i] = c at ck hd
  generalize l.drop (i + 1) = r at hd
  have KS : Hid (∀ w, Calls Tryd.prog 48 #[.int .u8 (c.toNat : Int)] w (Says (.bool (smallC c)) w)) := fun w => small c w
  have KD : Hid (∀ w, Calls Tryd.prog 51 #[.int .u8 (c.toNat : Int)] w (Says (.bool (digitC c)) w)) := fun w => digit c w
  have KB : Hid (∀ w, Calls Tryd.prog 53 #[.int .u8 (c.toNat : Int)] w (Says (.bool (blankC c)) w)) := fun w => blank c w
  obtain ⟨z, hz⟩ : ∃ z : Int, z = (c.toNat : Int) := ⟨_, rfl⟩
  rw [← hz] at ck KS KD KB
  cases h1 : smallC c with
  | true =>
    rw [h1] at KS
    obtain ⟨p, q, rfl, hp, hq⟩ := cut signC r
    have e1 : l.drop i = (c :: p) ++ q := hd
    have hs1 : ∀ x ∈ c :: p, signC x = true := fun x hx => by
      rcases List.mem_cons.1 hx with rfl | hx
      · simp [signC, h1]
      · exact hp x hx
    have KR : Hid (∀ k, Calls Tryd.prog 49 #[.pointer (some ⟨g, 0, none⟩), .func (.func 50) #[] #[]] (w.drewN k) (Saw (.int .i64 ((c :: p).length : Int)) (w.drewN k))) :=
      fun k => reach20 l (c :: p) q g i cap _ hl (by omega) ((HH.out.bytes HB.out).drewN k) e1 hs1 hq (HH.out.drewN k).c0 (HH.out.drewN k).c1
    have HNX := Lib.hid (HG.out.word hd h1 hp hq)
    have hln := drop_len e1 (by omega)
    have hT : (l.drop i).take (c :: p).length = c :: p := by rw [e1]; simp
    have KP : Hid (∀ k, Calls Tryd.prog 39 #[.pointer (some ⟨g, 0, none⟩), .int .i64 1, .int .i64 ((c :: p).length : Int), .int .i64 0] (w.drewN k) (Puts w0 g (some ⟨b, off, none⟩) l.length cap (i + (c :: p).length) line beg (ts ++ [⟨1, c :: p, 0, line, i - beg + 1⟩]))) := fun k => by
      have := put_some l w0 g b off cap i line beg ts 1 (c :: p).length 0 hl hln (by have := HB.out.le; omega) hbi hts HB.out (HH.out.drewN k)
      rw [hT] at this
      exact this
    obtain ⟨n, hn⟩ : ∃ n, n = (c :: p).length := ⟨_, rfl⟩
    have hn' : p.length + 1 = n := by rw [hn]; rfl
    rw [← hn] at KR KP
    rw [hn'] at HNX
    have hn0 : 0 < n := by omega
    clear hd hz e1 hs1 hln hT hn hp hq h1 KD KB
    go_enter Tryd.func37, Tryd.ntmps37
    go_wp2
    go_quiet (fail)
    go_wp2_with (fail)
    with_reducible refine (KS.out _).mono ?_
    rintro e w' ⟨rfl, rfl⟩
    go_wp2_with (fail)
    with_reducible refine (KR.out _).mono ?_
    rintro e w' ⟨rfl, m, rfl⟩
    go_wp2_with (fail)
    with_reducible refine (KP.out _).mono ?_
    rintro e w2 ⟨rfl, hr⟩
    have HR := Lib.hid hr
    clear hr
    go_wp2
    go_ret
    exact .inl ⟨rfl, _, _, _, _, HNX.out, by omega, HR.out⟩
  | false =>
    rw [h1] at KS
    cases h2 : digitC c with
    | true =>
      rw [h2] at KD
      obtain ⟨p, q, rfl, hp, hq⟩ := cut digitC r
      have e1 : l.drop i = (c :: p) ++ q := hd
      have hs1 : ∀ x ∈ c :: p, digitC x = true := fun x hx => by
        rcases List.mem_cons.1 hx with rfl | hx
        · exact h2
        · exact hp x hx
      have KN : Hid (∀ k, Calls Tryd.prog 52 #[.pointer (some ⟨g, 0, none⟩)] (w.drewN k) (Numbers w0 g (some ⟨b, off, none⟩) l.length cap i line beg ts (c :: p))) :=
        fun k => number l (c :: p) q w0 g b off cap i line beg ts hl (by omega) hbi hts e1 hs1 hq (by simp) HB.out (HH.out.drewN k)
      have HNX : Hid (vals 0 (c :: p) ≤ most → Goes l (ts ++ [⟨2, c :: p, vals 0 (c :: p), line, i - beg + 1⟩]) (i + (c :: p).length) line beg) := fun hv => HG.out.num hd h2 hp hq hv
      have HOV : Hid (¬ vals 0 (c :: p) ≤ most → ans l = [] ∧ (lex l).2 = (2, line, i - beg + 1)) := fun hv => HG.out.over hd h2 hp hq hv
      clear hd hz e1 hs1 hp hq h1 h2 KB
      go_enter Tryd.func37, Tryd.ntmps37
      go_wp2
      go_quiet (fail)
      go_wp2_with (fail)
      with_reducible refine (KS.out _).mono ?_
      rintro e w' ⟨rfl, rfl⟩
      go_wp2_with (fail)
      with_reducible refine (KD.out _).mono ?_
      rintro e w' ⟨rfl, rfl⟩
      go_wp2_with (fail)
      with_reducible refine (KN.out _).mono ?_
      rintro e w2 (⟨hv, rfl, hr⟩ | ⟨hv, rfl, hr⟩)
      · have HR := Lib.hid hr
        have HV := Lib.hid hv
        clear hr hv
        go_wp2
        go_ret
        exact .inl ⟨rfl, _, _, _, _, HNX.out HV.out, by simp, HR.out⟩
      · have HR := Lib.hid hr
        have HV := Lib.hid hv
        clear hr hv
        go_wp2
        go_ret
        exact .inr ⟨2, by omega, rfl, HR.out, (HOV.out HV.out).1, (HOV.out HV.out).2⟩
    | false =>
      rw [h2] at KD
      cases h3 : blankC c with
      | true =>
        rw [h3] at KB
        obtain ⟨p, q, rfl, hp, hq⟩ := cut blankC r
        have e1 : l.drop i = (c :: p) ++ q := hd
        have hs1 : ∀ x ∈ c :: p, blankC x = true := fun x hx => by
          rcases List.mem_cons.1 hx with rfl | hx
          · exact h3
          · exact hp x hx
        have KR : Hid (∀ k, Calls Tryd.prog 49 #[.pointer (some ⟨g, 0, none⟩), .func (.func 53) #[] #[]] (w.drewN k) (Saw (.int .i64 ((c :: p).length : Int)) (w.drewN k))) :=
          fun k => reach23 l (c :: p) q g i cap _ hl (by omega) ((HH.out.bytes HB.out).drewN k) e1 hs1 hq (HH.out.drewN k).c0 (HH.out.drewN k).c1
        have HNX := Lib.hid (HG.out.blanks e1 hs1)
        have hln := drop_len e1 (by omega)
        have hn0 : 0 < (c :: p).length := by simp
        have f1 := HH.out.thawed 1
        generalize (c :: p).length = n at KR HNX hln hn0
        clear hd hz e1 hs1 hp hq h1 h2 h3
        go_enter Tryd.func37, Tryd.ntmps37
        go_wp2
        go_quiet (fail)
        go_wp2_with (fail)
        with_reducible refine (KS.out _).mono ?_
        rintro e w' ⟨rfl, rfl⟩
        go_wp2_with (fail)
        with_reducible refine (KD.out _).mono ?_
        rintro e w' ⟨rfl, rfl⟩
        go_wp2_with (fail)
        with_reducible refine (KB.out _).mono ?_
        rintro e w' ⟨rfl, rfl⟩
        go_wp2_with (fail)
        go_region_law (go_simp; go_at_call 49; (refine (KR.out _).mono ?_); rintro e w' ⟨rfl, m, rfl⟩)
        all_goals
          go_wp2
          go_ret
          exact .inl ⟨rfl, _, _, _, _, HNX.out, by omega, HH.out.hop _ n (by omega)⟩
      | false =>
        rw [h3] at KB
        by_cases h4 : c.toNat = 35
        · obtain ⟨p, q, rfl, hp, hq⟩ := cut lineC r
          have e1 : l.drop i = (c :: p) ++ q := hd
          have hs1 : ∀ x ∈ c :: p, lineC x = true := fun x hx => by
            rcases List.mem_cons.1 hx with rfl | hx
            · simp [lineC, h4]
            · exact hp x hx
          have KR : Hid (∀ k, Calls Tryd.prog 49 #[.pointer (some ⟨g, 0, none⟩), .func (.func 54) #[] #[]] (w.drewN k) (Saw (.int .i64 ((c :: p).length : Int)) (w.drewN k))) :=
            fun k => reach24 l (c :: p) q g i cap _ hl (by omega) ((HH.out.bytes HB.out).drewN k) e1 hs1 hq (HH.out.drewN k).c0 (HH.out.drewN k).c1
          have HNX : Hid (Goes l ts (i + (c :: p).length) line beg) := HG.out.remark hd h4 hp hq
          have hln := drop_len e1 (by omega)
          have hn0 : 0 < (c :: p).length := by simp
          have f1 := HH.out.thawed 1
          have hz' : z = 35 := by rw [hz, h4]; rfl
          subst hz'
          generalize (c :: p).length = n at KR HNX hln hn0
          clear hd hz e1 hs1 hp hq h1 h2 h3 h4
          go_enter Tryd.func37, Tryd.ntmps37
          go_wp2
          go_quiet (fail)
          go_wp2_with (fail)
          with_reducible refine (KS.out _).mono ?_
          rintro e w' ⟨rfl, rfl⟩
          go_wp2_with (fail)
          with_reducible refine (KD.out _).mono ?_
          rintro e w' ⟨rfl, rfl⟩
          go_wp2_with (fail)
          with_reducible refine (KB.out _).mono ?_
          rintro e w' ⟨rfl, rfl⟩
          go_wp2_with (fail)
          go_region_law (go_simp; go_at_call 49; (refine (KR.out _).mono ?_); rintro e w' ⟨rfl, m, rfl⟩)
          all_goals
            go_wp2
            go_ret
            exact .inl ⟨rfl, _, _, _, _, HNX.out, by omega, HH.out.hop _ n (by omega)⟩
        · by_cases h5 : c.toNat = 10
          · have KE : Hid (∀ k, Calls Tryd.prog 55 #[.pointer (some ⟨g, 0, none⟩)] (w.drewN k) (Puts w0 g (some ⟨b, off, none⟩) l.length cap (i + 1) (line + 1) (i + 1) (ts ++ [⟨3, [], 0, line, i - beg + 1⟩]))) :=
              fun k => endLine l w0 g b off cap i line beg ts hl hi hbi hli hts HB.out (HH.out.drewN k)
            have HNX := Lib.hid (HG.out.nextLine hd h5)
            have hz' : z = 10 := by rw [hz, h5]; rfl
            subst hz'
            clear hd hz h1 h2 h3 h4 h5
            go_enter Tryd.func37, Tryd.ntmps37
            go_wp2
            go_quiet (fail)
            go_wp2_with (fail)
            with_reducible refine (KS.out _).mono ?_
            rintro e w' ⟨rfl, rfl⟩
            go_wp2_with (fail)
            with_reducible refine (KD.out _).mono ?_
            rintro e w' ⟨rfl, rfl⟩
            go_wp2_with (fail)
            with_reducible refine (KB.out _).mono ?_
            rintro e w' ⟨rfl, rfl⟩
            go_wp2_with (fail)
            with_reducible refine (KE.out _).mono ?_
            rintro e w2 ⟨rfl, hr⟩
            have HR := Lib.hid hr
            clear hr
            go_wp2
            go_ret
            exact .inl ⟨rfl, _, _, _, _, HNX.out, by omega, HR.out⟩
          · have HBD := Lib.hid (HG.out.bad hd h1 h2 h3 h4 h5)
            have g1 : (z == 35) = false := by simp; omega
            have g2 : (z == 10) = false := by simp; omega
            clear hd hz h1 h2 h3 h4 h5
            go_enter Tryd.func37, Tryd.ntmps37
            go_wp2
            go_quiet (fail)
            go_wp2_with (fail)
            with_reducible refine (KS.out _).mono ?_
            rintro e w' ⟨rfl, rfl⟩
            go_wp2_with (fail)
            with_reducible refine (KD.out _).mono ?_
            rintro e w' ⟨rfl, rfl⟩
            go_wp2_with (fail)
            with_reducible refine (KB.out _).mono ?_
            rintro e w' ⟨rfl, rfl⟩
            go_wp2
            go_ret
            exact .inr ⟨5, by omega, rfl, HH.out.drewN _, HBD.out.1, HBD.out.2⟩
end Go.Proofs.YtbijgmaeechmoaaDoor.Lx
