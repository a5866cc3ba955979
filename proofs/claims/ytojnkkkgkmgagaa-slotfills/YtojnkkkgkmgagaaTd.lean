/- A slot is let go: Free. -/
import Derived.Test.YtojnkkkgkmgagaaTc
import Derived.Deep.RegionHeld3
namespace Go.Proofs.Ytojnkkkgkmgagaa
open Go.RowKit

/-- All but the slot with an Id. -/
def wo (m : List Ky) (id : Int) : List Ky := m.filter fun x => decide (idK x ≠ id)
theorem wo_sub (m : List Ky) (id : Int) : (wo m id).Sublist m := List.filter_sublist
theorem wo_mem {m : List Ky} {id : Int} {x : Ky} : x ∈ wo m id ↔ x ∈ m ∧ idK x ≠ id := by simp [wo]
theorem wo_none {m : List Ky} {id : Int} (h : ∀ x ∈ m, idK x ≠ id) : wo m id = m := List.filter_eq_self.2 fun x hx => by simp [h x hx]
theorem wo_at : ∀ {m : List Ky} {i : Nat} {x : Ky} {id : Int}, (m.map idK).Nodup → m[i]? = some x → idK x = id → wo m id = m.take i ++ m.drop (i + 1)
  | [], _, _, _, _, h, _ => by simp at h
  | y :: l, 0, x, id, hn, h, hi => by
    simp at h
    subst h
    have := (List.nodup_cons.1 hn).1
    show List.filter _ (y :: l) = _
    rw [List.filter_cons_of_neg (by simp [hi])]
    show wo l id = l
    exact wo_none fun z hz e => this (by rw [hi, ← e]; exact List.mem_map_of_mem hz)
  | y :: l, i + 1, x, id, hn, h, hi => by
    have hx : l[i]? = some x := by simpa using h
    have hy : idK y ≠ id := fun e => (List.nodup_cons.1 hn).1 (by rw [e, ← hi]; exact List.mem_map_of_mem (List.mem_of_getElem? hx))
    show List.filter _ (y :: l) = _
    rw [List.filter_cons_of_pos (by simp [hy])]
    show y :: wo l id = _
    rw [wo_at (List.nodup_cons.1 hn).2 hx hi]
    simp
theorem wo_length {m : List Ky} {id : Int} (hn : (m.map idK).Nodup) (h : id ∈ m.map idK) : (wo m id).length + 1 = m.length := by
  obtain ⟨x, hx, hi⟩ := List.mem_map.1 h
  obtain ⟨i, hi'⟩ := List.getElem?_of_mem hx
  have := (List.getElem?_eq_some_iff.1 hi').1
  rw [wo_at hn hi' hi]
  simp; omega
theorem wo_ids {m : List Ky} {id : Int} : id ∉ (wo m id).map idK := ids_none.1 fun _ hx => (wo_mem.1 hx).2
theorem flatQ_take : ∀ (l : List Ky) (i : Nat), flatQ (l.take i) = (flatQ l).take (i * 4)
  | [], i => by simp [flatQ]
  | r :: l, 0 => by simp [flatQ]
  | r :: l, i + 1 => by rw [show (i + 1) * 4 = i * 4 + 4 by omega]; simp [flatQ, cellsQ, flatQ_take l i]
theorem flatQ_drop : ∀ (l : List Ky) (i : Nat), flatQ (l.drop i) = (flatQ l).drop (i * 4)
  | [], i => by simp [flatQ]
  | r :: l, 0 => by simp
  | r :: l, i + 1 => by rw [show (i + 1) * 4 = i * 4 + 4 by omega]; simp [flatQ, cellsQ, flatQ_drop l i]

theorem Fnd.no {m : List Ky} {id r : Int} (h : Fnd m id r) (hid : id ∉ m.map idK) : r = -1 := by
  rcases h with ⟨i, x, hx, hi, _⟩ | ⟨_, hr⟩
  · exact absurd (List.mem_map.2 ⟨x, List.mem_of_getElem? hx, hi⟩) hid
  · exact hr
theorem Fnd.yes {m : List Ky} {id r : Int} (h : Fnd m id r) (hid : id ∈ m.map idK) : ∃ (i : Nat) (x : Ky), m[i]? = some x ∧ idK x = id ∧ r = (i : Int) := by
  rcases h with h | ⟨hn, _⟩
  · exact h
  · exact absurd hid (ids_none.1 hn)
section
variable {B p room : Nat} {w w1 w2 : World} {v v' : Value} {m m' : List Ky}
theorem TabV.upd (r : Value) (h : TabV B w p room v m) (hb : Below w.heap.size w w1) (ht : Turns (fun k => v.ownBlock = some k) w1 w2) (ho : w2.ownsRow B 33 4 v' m'.length (flatQ m'))
    (hg : v'.ownBlock = v.ownBlock ∨ ∃ k, v'.ownBlock = some k ∧ w.heap.size ≤ k) (hgd : Good m') (hln : m'.length ≤ room) : Acts r B p room v.ownBlock m' w (.returned r) (w2.setCell ⟨p, 1, none⟩ v') := by
  have hp := h.obj.lt
  have hvp : v'.ownBlock ≠ some p := fun e => by
    rcases hg with h' | ⟨k, h', hk⟩
    · exact h.ne (h' ▸ e)
    · rw [h'] at e; cases e; omega
  have h2 : Lies w2 p 49 #[.int .i64 (room : Int), v] := (h.obj.below hb hp).turns ht h.ne
  have hT : Turns (fun k => k = p ∨ v.ownBlock = some k) w (w2.setCell ⟨p, 1, none⟩ v') :=
    Turns.setCell (Turns.trans (Turns.of_below (S := fun k => k = p ∨ v.ownBlock = some k) hb) ht (fun _ _ h => .inr h)) (.inr (.inl rfl)) v'
  refine ⟨rfl, v'.ownBlock, ⟨v', rfl, h2.here 1 v', own_same ho (fun k hk => Below.heap_setCell w2 _ _ k (fun e => hvp (by rw [hk, e]))), Nat.le_trans h.base hT.size, h.bp, hvp, hgd, h.r1, h.r2, hln⟩, hT, hg⟩
end
section
variable {B p room : Nat} {w : World} {v : Value} {m : List Ky}
set_option maxHeartbeats 1000000 in
theorem free_no (id : Int) (h : TabV B w p room v m) (hid : id ∉ m.map idK) : Calls Try.prog 11 #[.pointer (some ⟨p, 0, none⟩), .int .i64 id] w (Tells (.int .i64 4) w) := by
  have KF := Lib.hid (find_ id h)
  have HID := Lib.hid hid
  clear h hid
  go_enter Try.func11, Try.ntmps11
  go_wp2_with (go_at_call 19; refine KF.out.mono ?_; rintro e w2 ⟨r, rfl, hf, hb⟩; have HB := Lib.hid hb; obtain rfl := hf.no HID.out; clear hb hf)
  go_ret
  exact ⟨rfl, HB.out⟩
set_option maxRecDepth 100000 in
set_option maxHeartbeats 2000000 in
theorem free_yes (id : Int) (h : TabV B w p room v m) (hid : id ∈ m.map idK) : Calls Try.prog 11 #[.pointer (some ⟨p, 0, none⟩), .int .i64 id] w (Acts (.int .i64 0) B p room v.ownBlock (wo m id) w) := by
  have KF := Lib.hid (find_ id h)
  have HID := Lib.hid hid
  have HH := Lib.hid h
  have hl := h.len
  have hr2 := h.r2
  have hpl : p < w.heap.size := h.obj.lt
  clear h hid
  go_enter Try.func11, Try.ntmps11
  go_wp2_with (first
    | (go_at_call 19
       refine KF.out.mono ?_
       rintro e w2 ⟨r, rfl, hf, hb⟩
       have HB := Lib.hid hb
       obtain ⟨i, x, hx, hi, rfl⟩ := hf.yes HID.out
       have HX := Lib.hid hx
       have HI := Lib.hid hi
       have hil := (List.getElem?_eq_some_iff.1 hx).1
       have c1 : w2.cell? ⟨p, 1, none⟩ = some v := (hb.cell (p := ⟨p, 1, none⟩) hpl).trans (HH.out.obj.cell 1)
       have hpl2 : p < w2.heap.size := Nat.lt_of_lt_of_le hpl hb.size
       have hV2 := HH.out.below hb
       have HV2 := Lib.hid hV2
       have KD := Lib.hid (delete (B := B) (i := i) (j := i + 1) (by omega) (by omega) hV2.own (one_flatQ _))
       have e1 : ((i + 1 : Nat) : Int) = (i : Int) + 1 := by omega
       rw [e1, show i + (m.length - (i + 1)) = (wo m id).length by rw [wo_at HH.out.good.ids hx hi]; simp; omega, show (flatQ m).take (i * 4) ++ (flatQ m).drop ((i + 1) * 4) = flatQ (wo m id) by rw [wo_at HH.out.good.ids hx hi, flatQ_append, flatQ_take, flatQ_drop]] at KD
       clear hb hf hx hi hV2 e1)
    | (go_at_call 20
       refine KD.out.mono ?_
       rintro e w3 ⟨v', rfl, hvb, hown, ht⟩
       have hL3 := HV2.out.obj.turns ht HV2.out.ne
       have f1 : w3.cell? ⟨p, 1, none⟩ = some v := hL3.cell 1
       have f0 : w3.frozen? ⟨p, 1, none⟩ = false := hL3.thawed 1
       have HU := Lib.hid (HH.out.upd (.int .i64 0) HB.out ht hown (.inl hvb) (HH.out.good.sub (wo_sub m id)) (Nat.le_trans (wo_sub m id).length_le hl))
       obtain ⟨a', c', rfl, hle, hat⟩ := own_form hown
       clear hle hat hvb hown ht hL3 c1 KD))
  go_ret
  exact HU.out
end
end Go.Proofs.Ytojnkkkgkmgagaa
