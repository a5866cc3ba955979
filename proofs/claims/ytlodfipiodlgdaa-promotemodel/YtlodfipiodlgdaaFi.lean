/- The place of an entry by its number. -/
import Derived.Test.YtlodfipiodlgdaaUp
import Derived.OwnWalk
namespace Go.Proofs.Ytlodfipiodlgdaa
open Go.RowKit

/-- The place of a number, where it stands there, and whether there is one. -/
def Finds (m : List Ky) (id : Int) (w : World) (e : Ending) (w' : World) : Prop :=
  Below w.heap.size w w' ∧ ((∃ (j i : Nat) (x : Ky), j < 64 ∧ (plc m j)[i]? = some x ∧ idK x = id ∧ e = .returned (.tuple #[.int .i64 (j : Int), .int .i64 (i : Int), .bool true])) ∨ ((∀ x ∈ m, idK x ≠ id) ∧ e = .returned (.tuple #[.int .i64 0, .int .i64 0, .bool false])))
def FindRel (m : List Ky) (id : Int) (w : World) (i : Value) (W : World) : Prop := ∃ (k : Nat) (X : World), k ≤ 64 ∧ i = .int .i64 (k : Int) ∧ X = W ∧ Below w.heap.size w X ∧ ∀ x ∈ upto m k, idK x ≠ id
def FindIn (l : List Ky) (id : Int) (w : World) (i : Value) (W : World) : Prop := ∃ (k : Nat) (X : World), k ≤ l.length ∧ i = .int .i64 (k : Int) ∧ X = W ∧ Below w.heap.size w X ∧ ∀ j x, j < k → l[j]? = some x → idK x ≠ id
section
variable {S : Nat → Prop} {B p room : Nat} {now : Int} {w : World} {m : List Ky}
set_option maxHeartbeats 1000000 in
theorem findAt (id : Int) (h : Whl S B w p room now m) : Calls Try.prog 22 #[.pointer (some ⟨p, 0, none⟩), .int .i64 id] w (Finds m id w) := by
  obtain ⟨V, hV⟩ := h.body
  obtain ⟨A, hl, hA⟩ := hV.load
  have HA := Lib.hid hA
  have HV := Lib.hid hV
  have HL := Lib.hid hl
  have hm := h.len
  have hr := h.r2
  clear hl h hV hA
  go_enter Try.func22, Try.ntmps22
  go_wp2_with (refine wpList_load_places rfl (.tmp 13) rfl HL.out rfl ?_)
  go_loopw [15] (fun i W => FindRel m id w i W) (fun i _ => 64 - (intOf i).toNat)
  case atStart => exact ⟨0, w, by omega, rfl, rfl, Below.refl _ _, fun x hx => by rw [upto_zero] at hx; simp at hx⟩
  case round =>
    obtain ⟨k, W, hk, rfl, rfl, hbel, hall⟩ := hrel
    have HB := Lib.hid hbel
    have HN := Lib.hid hall
    clear hbel hall
    by_cases hlt : k < 64
    · have t1 : decide ((k : Int) < 64) = true := by simp; omega
      obtain ⟨a, c, hv, hc, hkeys⟩ := HV.out.row hlt
      have hx := run_place hlt (HA.out k hlt) W
      rw [hv] at hx
      have HK := Lib.hid hkeys
      have u2 := plc_len m k
      clear hv hkeys
      generalize hp : plc m k = l at hx HK u2 hc
      have HP := Lib.hid hp
      clear hp
      go_wp2
      clear hx
      go_loopw [21] (fun i W => FindIn l id w i W) (fun i _ => l.length - (intOf i).toNat)
      case atStart => exact ⟨0, _, by omega, rfl, rfl, HB.out, fun j _ hj => by omega⟩
      case round =>
        obtain ⟨q, W2, hq, rfl, rfl, hbel, hall⟩ := hrel
        have HB2 := Lib.hid hbel
        have HA2 := Lib.hid hall
        clear hbel hall
        by_cases hlq : q < l.length
        · have t2 : decide ((q : Int) < (l.length : Int)) = true := by simp; omega
          have hx : l[q]? = some l[q] := List.getElem?_eq_getElem hlq
          obtain ⟨b, off, rfl, hb, x0, x1⟩ := (HK.out.below (Nat.le_refl _) HB2.out).cells hx
          have HX := Lib.hid hx
          clear hx
          generalize l[q] = x at x0 x1 HX
          obtain ⟨y0, y1⟩ := x
          simp only at x0 x1
          by_cases hd : y1 = id
          · have t3 : (y1 == id) = true := by simp [hd]
            have HD := Lib.hid hd
            clear hd
            go_wp2
            go_ret3
            have hz := HB2.out.size
            refine ⟨?_, .inl ⟨k, q, (y0, y1), hlt, by rw [HP.out]; exact HX.out, HD.out, rfl⟩⟩
            first
              | exact HB2.out.alloc hz _
              | exact ((HB2.out.alloc hz _).setCell (p := ⟨W2.heap.size, 0, none⟩) hz _).setCell (p := ⟨W2.heap.size, 1, none⟩) hz _
          · have t3 : (y1 == id) = false := by simp [hd]
            have HA3 : Hid (∀ j y, j < q + 1 → l[j]? = some y → idK y ≠ id) := fun j y hj hy => by
              by_cases e : j = q
              · subst e
                rw [HX.out] at hy
                cases hy
                exact hd
              · exact HA2.out j y (by omega) hy
            clear hd
            go_wp2
            go_roundw
            case rel =>
              have hz := HB2.out.size
              refine ⟨q + 1, _, by omega, by go_num, rfl, ?_, HA3.out⟩
              first
                | exact HB2.out.alloc hz _
                | exact ((HB2.out.alloc hz _).setCell (p := ⟨W2.heap.size, 0, none⟩) hz _).setCell (p := ⟨W2.heap.size, 1, none⟩) hz _
            case measure => simp [intOf]; omega
        · have t2 : decide ((q : Int) < (l.length : Int)) = false := by simp; omega
          have t2' : decide (q < l.length) = false := by simp; omega
          have HA3 : Hid (∀ x ∈ upto m (k + 1), idK x ≠ id) := fun x hx => by
            rcases upto_split.1 hx with hx | hx
            · exact HN.out x hx
            · rw [HP.out] at hx
              obtain ⟨j, hj⟩ := List.getElem?_of_mem hx
              have := (List.getElem?_eq_some_iff.1 hj).1
              exact HA2.out j x (by omega) hj
          go_wp2
          go_roundw
          case rel => exact ⟨k + 1, _, by omega, by go_num, rfl, HB2.out, HA3.out⟩
          case measure => simp [intOf]; omega
    · have t1 : decide ((k : Int) < 64) = false := by simp; omega
      have t1' : decide (k < 64) = false := by simp; omega
      have HN2 : Hid (∀ x ∈ m, idK x ≠ id) := fun x hx => HN.out x (by rw [show k = 64 by omega, upto_all]; exact hx)
      go_wp2
      go_ret3
      exact ⟨HB.out, .inr ⟨HN2.out, rfl⟩⟩
end
end Go.Proofs.Ytlodfipiodlgdaa
