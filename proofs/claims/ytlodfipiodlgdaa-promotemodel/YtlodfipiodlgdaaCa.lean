/- An entry is cancelled. -/
import Derived.Test.YtlodfipiodlgdaaFi
import Derived.Test.YtlodfipiodlgdaaBs
namespace Go.Proofs.Ytlodfipiodlgdaa
open Go.RowKit

theorem flatQ_take : ∀ (l : List Ky) (i : Nat), flatQ (l.take i) = (flatQ l).take (i * 2)
  | [], i => by simp [flatQ]
  | r :: l, 0 => by simp [flatQ]
  | r :: l, i + 1 => by rw [show (i + 1) * 2 = i * 2 + 2 by omega]; simp [flatQ, cellsQ, flatQ_take l i]
theorem flatQ_drop : ∀ (l : List Ky) (i : Nat), flatQ (l.drop i) = (flatQ l).drop (i * 2)
  | [], i => by simp [flatQ]
  | r :: l, 0 => by simp
  | r :: l, i + 1 => by rw [show (i + 1) * 2 = i * 2 + 2 by omega]; simp [flatQ, cellsQ, flatQ_drop l i]
theorem Good.same {m : List Ky} (h : Good m) {x y : Ky} (hx : x ∈ m) (hy : y ∈ m) (hid : idK x = idK y) : x = y := by
  obtain ⟨i, hi⟩ := List.getElem?_of_mem hx
  obtain ⟨j, hj⟩ := List.getElem?_of_mem hy
  have := h.at_ hi hj hid
  subst this
  rw [hi] at hj
  cases hj; rfl
theorem ids_none {m : List Ky} {id : Int} : (∀ x ∈ m, idK x ≠ id) ↔ id ∉ m.map idK := by
  constructor
  · intro h h2
    obtain ⟨x, hx, rfl⟩ := List.mem_map.1 h2
    exact h x hx rfl
  · intro h x hx e
    exact h (List.mem_map.2 ⟨x, hx, e⟩)
/-- A place's cell behind a call that turned its row alone. -/
theorem Body.after {S : Nat → Prop} {B p room j : Nat} {now : Int} {w w2 : World} {m : List Ky} {V : Nat → Value} {v : Value} (h : Body S B w p room now m V) (ht : Turns (fun k => v.ownBlock = some k) w w2) (hne : v.ownBlock ≠ some p) (hj : j < 64) :
    ∃ u, w2.cell? ⟨p, 2 + j, none⟩ = some u ∧ w2.frozen? ⟨p, 2 + j, none⟩ = false := by
  obtain ⟨cs, h1, h2, h3, h4, h5⟩ := h.lies
  have hL := h1.turns ht hne
  exact ⟨V j, (hL.cell _).trans (h5 j hj), hL.thawed _⟩
section
variable {S : Nat → Prop} {B p room : Nat} {now : Int} {w : World} {m : List Ky}
set_option maxHeartbeats 1000000 in
theorem cancel_no (id : Int) (h : Whl S B w p room now m) (hid : id ∉ m.map idK) : Calls Try.prog 17 #[.pointer (some ⟨p, 0, none⟩), .int .i64 id] w (Tells (.bool false) w) := by
  have HF := Lib.hid (findAt id h)
  clear h
  go_enter Try.func17, Try.ntmps17
  go_wp2_with (fail)
  with_reducible refine HF.out.mono ?_
  rintro e w1 ⟨hb, ho⟩
  have HB := Lib.hid hb
  clear hb
  rcases ho with ⟨j, i, x, hj, hx, hi, rfl⟩ | ⟨hn, rfl⟩
  · exact absurd (List.mem_map.2 ⟨x, (plc_mem.1 (List.mem_of_getElem? hx)).1, hi⟩) hid
  · clear hn hid
    go_wp2
    go_ret
    exact ⟨rfl, HB.out⟩
set_option maxRecDepth 100000 in
set_option maxHeartbeats 2000000 in
theorem cancel_yes (id : Int) (h : Whl S B w p room now m) (hid : id ∈ m.map idK) : Calls Try.prog 17 #[.pointer (some ⟨p, 0, none⟩), .int .i64 id] w (Acts (.bool true) S B p room now (wo m id) w) := by
  have HF := Lib.hid (findAt id h)
  have HH := Lib.hid h
  clear h
  go_enter Try.func17, Try.ntmps17
  go_wp2_with (fail)
  with_reducible refine HF.out.mono ?_
  rintro e w1 ⟨hb, ho⟩
  have HB := Lib.hid hb
  clear hb
  rcases ho with ⟨j, i, x, hj, hx, hi, rfl⟩ | ⟨hn, rfl⟩
  · obtain ⟨V, hV⟩ := HH.out.body
    have hV1 : Body S B w1.drew p room now m V := hV.same HH.out.sp (fun k hk => HB.out.block k (HH.out.inS k hk).2)
    have HV := Lib.hid hV
    have hil := (List.getElem?_eq_some_iff.1 hx).1
    have hpl := plc_len m j
    have hml := HH.out.len
    have hr2 := HH.out.r2
    have HM : Hid (plc (wo m id) j = (plc m j).take i ++ (plc m j).drop (i + 1)) := by
      rw [plc_wo]; exact Lib.hid (wo_at (plc_good HH.out.good j).ids hx hi)
    have HO : Hid (∀ k, k < 64 → k ≠ j → plc (wo m id) k = plc m k) := fun k _ hk => by
      rw [plc_wo]
      refine wo_none fun y hy e => ?_
      have h1 := plc_mem.1 hy
      have h2 := plc_mem.1 (List.mem_of_getElem? hx)
      have := HH.out.good.same h1.1 h2.1 (e.trans hi.symm)
      subst this
      omega
    have KD := Lib.hid (delete (B := B) (i := i) (j := i + 1) (by omega) (by omega) (hV1.own j hj) (one_flatQ _))
    have HN : Hid (i + ((plc m j).length - (i + 1)) = (plc (wo m id) j).length) := by
      rw [HM.out]; exact Lib.hid (by simp; omega)
    have HC : Hid ((flatQ (plc m j)).take (i * 2) ++ (flatQ (plc m j)).drop ((i + 1) * 2) = flatQ (plc (wo m id) j)) := by
      rw [HM.out, flatQ_append, flatQ_take, flatQ_drop]; exact Lib.hid rfl
    rw [HN.out, HC.out] at KD
    have c0 : w1.cell? ⟨p, 2 + j, none⟩ = some (V j) := hV1.place hj
    have hpw : p < w.heap.size := HH.out.lt
    have hp1 : p < w1.heap.size := Nat.lt_of_lt_of_le hpw HB.out.size
    have HPJ := Lib.hid (show (V j).ownBlock ≠ some p from fun e => (hV.inn j p hj e).2 rfl)
    have HL1 := Lib.hid hV1
    have HX := Lib.hid hx
    clear hV hV1 hx hi hid
    have e1 : ((i + 1 : Nat) : Int) = (i : Int) + 1 := by omega
    rw [e1] at KD
    clear e1
    have z5 : IntKind.i64.wrap ((i : Int) + 1) = (i : Int) + 1 := by rw [IntKind.wrap_i64]; omega
    have i1 : (0 : Int) ≤ (j : Int) := by omega
    have i2 : (j : Int) < 64 := by omega
    generalize hvj : V j = v at KD c0 HPJ
    have HVJ := Lib.hid hvj
    clear hvj
    go_wp2_with (fail)
    go_region_law (go_simp; go_at_call 26; (refine (KD.out).mono ?_); rintro e w2 ⟨v', rfl, hvb, hown, ht⟩; obtain ⟨u, f1, f0⟩ := HL1.out.after ht HPJ.out hj; obtain ⟨a', c', rfl, hle, hat⟩ := own_form hown; clear hle hat; have HT := Lib.hid ht; have HOW := Lib.hid hown; have HVB := Lib.hid hvb; clear hvb hown ht)
    go_wp2
    go_ret
    have hu := HH.out.upd HV.out hj (below_drewN HB.out 1) (by rw [HVJ.out]; exact HT.out) HOW.out (fun k hk => .inl (by rw [HVJ.out, ← HVB.out]; exact hk)) HO.out (Nat.le_trans (wo_sub m id).length_le hml) (HH.out.good.sub (wo_sub m id)) (fun d hd => HH.out.times d (wo_mem.1 hd).1)
    exact ⟨rfl, hu⟩
  · exact absurd hid (ids_none.1 hn)
end
end Go.Proofs.Ytlodfipiodlgdaa
