/- How many bytes stand, from the next one on, that a function says yes to. -/
import Derived.Test.YtbijgmaeechmoaaDoorLLf
import Derived.IntWalk
namespace Go.Proofs.YtbijgmaeechmoaaDoor.Lx
open Go.RowKit

def ReachRel (n : Nat) (w : World) (i : Value) (W : World) : Prop := ∃ k m : Nat, k ≤ n ∧ i = .int .i64 (k : Int) ∧ W = w.drewN m
theorem drop_at {l p q : List UInt8} {i k : Nat} (h : l.drop i = p ++ q) : l[i + k]? = (p ++ q)[k]? := by rw [← h, List.getElem?_drop]

set_option maxHeartbeats 2000000 in
theorem reach20 (l p q : List UInt8) (g i cap : Nat) (a : Option Addr) {w : World} (hl : l.length ≤ 1000000) (hi : i ≤ l.length) (hb : Bytes w a cap l) (e : l.drop i = p ++ q) (hp : ∀ x ∈ p, signC x = true) (hq : Ends signC q)
    (c0 : w.cell? ⟨g, 0, none⟩ = some (.slice a l.length cap)) (c1 : w.cell? ⟨g, 1, none⟩ = some (.int .i64 (i : Int))) :
    Calls Tryd.prog 49 #[.pointer (some ⟨g, 0, none⟩), .func (.func 50) #[] #[]] w (Saw (.int .i64 (p.length : Int)) w) := by
  have HP := Lib.hid hp
  have HQ := Lib.hid hq
  have HB := Lib.hid hb
  have hle := hb.le
  have hsum : i + (p.length + q.length) = l.length := by
    have := congrArg List.length e
    simp at this; omega
  have HE := Lib.hid e
  clear hp hq hb e
  go_enter Tryd.func49, Tryd.ntmps49
  go_wp2
  go_loopw [5] (fun k W => ReachRel p.length w k W) (fun k _ => p.length - (intOf k).toNat)
  case atStart => exact ⟨0, 0, by omega, rfl, rfl⟩
  case round =>
    obtain ⟨k, m, hk, rfl, rfl⟩ := hrel
    obtain ⟨j, hj⟩ : ∃ j, j = i + k := ⟨_, rfl⟩
    have hw : IntKind.i64.wrap ((i : Int) + (k : Int)) = (j : Int) := by rw [IntWalk.i64_in _ ⟨by omega, by omega⟩]; omega
    by_cases hend : i + k < l.length
    · have t1 : decide ((j : Int) < (l.length : Int)) = true := by simp; omega
      have t2 : j < l.length := by omega
      obtain ⟨b, off, rfl, _, hc⟩ := HB.out.at_ (by omega)
      have hx : l[i + k]? = some (l[i + k]'hend) := List.getElem?_eq_getElem _
      have ck : w.cell? ⟨b, off + j, none⟩ = some (.int .u8 ((l[i + k]'hend).toNat : Int)) := by rw [hj]; exact hc _ _ hx
      have HJ := Lib.hid hj
      clear hj
      have hxx := hx
      rw [drop_at HE.out] at hxx
      clear hc hx
      generalize l[i + k]'hend = c at ck hxx
      by_cases hkp : k < p.length
      · rw [List.getElem?_append_left hkp] at hxx
        have hyes := HP.out c (List.mem_of_getElem? hxx)
        have KC : Hid (∀ n, Calls Tryd.prog 50 #[.int .u8 (c.toNat : Int)] (w.drewN n) (Says (.bool true) (w.drewN n))) := fun n => by rw [← hyes]; exact inWord c _
        clear hxx hyes
        generalize (c.toNat : Int) = z at ck KC
        go_wp2
        go_quiet (exact (KC.out _).mono fun _ _ h => ⟨h.1, _, h.2.symm⟩)
        go_wp2
        go_roundw
        case rel => first | exact ⟨k + 1, _, by omega, by go_num, rfl⟩ | exact ⟨k + 1, _, by omega, by go_num, World.drewN_drewN _ _ _⟩
        case measure => simp [intOf]; omega
      · obtain rfl : k = p.length := by omega
        have hno : signC c = false := by
          rw [List.getElem?_append_right (Nat.le_refl _), Nat.sub_self] at hxx
          cases hqq : q with
          | nil => rw [hqq] at hxx; simp at hxx
          | cons y r =>
            rw [hqq] at hxx
            have : y = c := by simpa using hxx
            subst this
            exact HQ.out y r hqq
        have KC : Hid (∀ n, Calls Tryd.prog 50 #[.int .u8 (c.toNat : Int)] (w.drewN n) (Says (.bool false) (w.drewN n))) := fun n => by rw [← hno]; exact inWord c _
        clear hxx hno
        generalize (c.toNat : Int) = z at ck KC
        go_wp2
        go_quiet (exact (KC.out _).mono fun _ _ h => ⟨h.1, _, h.2.symm⟩)
        go_wp2
        go_ret
        first | exact ⟨rfl, _, rfl⟩ | exact ⟨rfl, _, World.drewN_drewN _ _ _⟩
    · have t1 : decide ((j : Int) < (l.length : Int)) = false := by simp; omega
      have t1' : decide (j < l.length) = false := by simp; omega
      have HJ := Lib.hid hj
      clear hj
      obtain rfl : k = p.length := by omega
      go_wp2
      go_quiet (fail)
      go_wp2
      go_ret
      first | exact ⟨rfl, _, rfl⟩ | exact ⟨rfl, _, World.drewN_drewN _ _ _⟩

set_option maxHeartbeats 2000000 in
theorem reach21 (l p q : List UInt8) (g i cap : Nat) (a : Option Addr) {w : World} (hl : l.length ≤ 1000000) (hi : i ≤ l.length) (hb : Bytes w a cap l) (e : l.drop i = p ++ q) (hp : ∀ x ∈ p, digitC x = true) (hq : Ends digitC q)
    (c0 : w.cell? ⟨g, 0, none⟩ = some (.slice a l.length cap)) (c1 : w.cell? ⟨g, 1, none⟩ = some (.int .i64 (i : Int))) :
    Calls Tryd.prog 49 #[.pointer (some ⟨g, 0, none⟩), .func (.func 51) #[] #[]] w (Saw (.int .i64 (p.length : Int)) w) := by
  have HP := Lib.hid hp
  have HQ := Lib.hid hq
  have HB := Lib.hid hb
  have hle := hb.le
  have hsum : i + (p.length + q.length) = l.length := by
    have := congrArg List.length e
    simp at this; omega
  have HE := Lib.hid e
  clear hp hq hb e
  go_enter Tryd.func49, Tryd.ntmps49
  go_wp2
  go_loopw [5] (fun k W => ReachRel p.length w k W) (fun k _ => p.length - (intOf k).toNat)
  case atStart => exact ⟨0, 0, by omega, rfl, rfl⟩
  case round =>
    obtain ⟨k, m, hk, rfl, rfl⟩ := hrel
    obtain ⟨j, hj⟩ : ∃ j, j = i + k := ⟨_, rfl⟩
    have hw : IntKind.i64.wrap ((i : Int) + (k : Int)) = (j : Int) := by rw [IntWalk.i64_in _ ⟨by omega, by omega⟩]; omega
    by_cases hend : i + k < l.length
    · have t1 : decide ((j : Int) < (l.length : Int)) = true := by simp; omega
      have t2 : j < l.length := by omega
      obtain ⟨b, off, rfl, _, hc⟩ := HB.out.at_ (by omega)
      have hx : l[i + k]? = some (l[i + k]'hend) := List.getElem?_eq_getElem _
      have ck : w.cell? ⟨b, off + j, none⟩ = some (.int .u8 ((l[i + k]'hend).toNat : Int)) := by rw [hj]; exact hc _ _ hx
      have HJ := Lib.hid hj
      clear hj
      have hxx := hx
      rw [drop_at HE.out] at hxx
      clear hc hx
      generalize l[i + k]'hend = c at ck hxx
      by_cases hkp : k < p.length
      · rw [List.getElem?_append_left hkp] at hxx
        have hyes := HP.out c (List.mem_of_getElem? hxx)
        have KC : Hid (∀ n, Calls Tryd.prog 51 #[.int .u8 (c.toNat : Int)] (w.drewN n) (Says (.bool true) (w.drewN n))) := fun n => by rw [← hyes]; exact digit c _
        clear hxx hyes
        generalize (c.toNat : Int) = z at ck KC
        go_wp2
        go_quiet (exact (KC.out _).mono fun _ _ h => ⟨h.1, _, h.2.symm⟩)
        go_wp2
        go_roundw
        case rel => first | exact ⟨k + 1, _, by omega, by go_num, rfl⟩ | exact ⟨k + 1, _, by omega, by go_num, World.drewN_drewN _ _ _⟩
        case measure => simp [intOf]; omega
      · obtain rfl : k = p.length := by omega
        have hno : digitC c = false := by
          rw [List.getElem?_append_right (Nat.le_refl _), Nat.sub_self] at hxx
          cases hqq : q with
          | nil => rw [hqq] at hxx; simp at hxx
          | cons y r =>
            rw [hqq] at hxx
            have : y = c := by simpa using hxx
            subst this
            exact HQ.out y r hqq
        have KC : Hid (∀ n, Calls Tryd.prog 51 #[.int .u8 (c.toNat : Int)] (w.drewN n) (Says (.bool false) (w.drewN n))) := fun n => by rw [← hno]; exact digit c _
        clear hxx hno
        generalize (c.toNat : Int) = z at ck KC
        go_wp2
        go_quiet (exact (KC.out _).mono fun _ _ h => ⟨h.1, _, h.2.symm⟩)
        go_wp2
        go_ret
        first | exact ⟨rfl, _, rfl⟩ | exact ⟨rfl, _, World.drewN_drewN _ _ _⟩
    · have t1 : decide ((j : Int) < (l.length : Int)) = false := by simp; omega
      have t1' : decide (j < l.length) = false := by simp; omega
      have HJ := Lib.hid hj
      clear hj
      obtain rfl : k = p.length := by omega
      go_wp2
      go_quiet (fail)
      go_wp2
      go_ret
      first | exact ⟨rfl, _, rfl⟩ | exact ⟨rfl, _, World.drewN_drewN _ _ _⟩

set_option maxHeartbeats 2000000 in
theorem reach23 (l p q : List UInt8) (g i cap : Nat) (a : Option Addr) {w : World} (hl : l.length ≤ 1000000) (hi : i ≤ l.length) (hb : Bytes w a cap l) (e : l.drop i = p ++ q) (hp : ∀ x ∈ p, blankC x = true) (hq : Ends blankC q)
    (c0 : w.cell? ⟨g, 0, none⟩ = some (.slice a l.length cap)) (c1 : w.cell? ⟨g, 1, none⟩ = some (.int .i64 (i : Int))) :
    Calls Tryd.prog 49 #[.pointer (some ⟨g, 0, none⟩), .func (.func 53) #[] #[]] w (Saw (.int .i64 (p.length : Int)) w) := by
  have HP := Lib.hid hp
  have HQ := Lib.hid hq
  have HB := Lib.hid hb
  have hle := hb.le
  have hsum : i + (p.length + q.length) = l.length := by
    have := congrArg List.length e
    simp at this; omega
  have HE := Lib.hid e
  clear hp hq hb e
  go_enter Tryd.func49, Tryd.ntmps49
  go_wp2
  go_loopw [5] (fun k W => ReachRel p.length w k W) (fun k _ => p.length - (intOf k).toNat)
  case atStart => exact ⟨0, 0, by omega, rfl, rfl⟩
  case round =>
    obtain ⟨k, m, hk, rfl, rfl⟩ := hrel
    obtain ⟨j, hj⟩ : ∃ j, j = i + k := ⟨_, rfl⟩
    have hw : IntKind.i64.wrap ((i : Int) + (k : Int)) = (j : Int) := by rw [IntWalk.i64_in _ ⟨by omega, by omega⟩]; omega
    by_cases hend : i + k < l.length
    · have t1 : decide ((j : Int) < (l.length : Int)) = true := by simp; omega
      have t2 : j < l.length := by omega
      obtain ⟨b, off, rfl, _, hc⟩ := HB.out.at_ (by omega)
      have hx : l[i + k]? = some (l[i + k]'hend) := List.getElem?_eq_getElem _
      have ck : w.cell? ⟨b, off + j, none⟩ = some (.int .u8 ((l[i + k]'hend).toNat : Int)) := by rw [hj]; exact hc _ _ hx
      have HJ := Lib.hid hj
      clear hj
      have hxx := hx
      rw [drop_at HE.out] at hxx
      clear hc hx
      generalize l[i + k]'hend = c at ck hxx
      by_cases hkp : k < p.length
      · rw [List.getElem?_append_left hkp] at hxx
        have hyes := HP.out c (List.mem_of_getElem? hxx)
        have KC : Hid (∀ n, Calls Tryd.prog 53 #[.int .u8 (c.toNat : Int)] (w.drewN n) (Says (.bool true) (w.drewN n))) := fun n => by rw [← hyes]; exact blank c _
        clear hxx hyes
        generalize (c.toNat : Int) = z at ck KC
        go_wp2
        go_quiet (exact (KC.out _).mono fun _ _ h => ⟨h.1, _, h.2.symm⟩)
        go_wp2
        go_roundw
        case rel => first | exact ⟨k + 1, _, by omega, by go_num, rfl⟩ | exact ⟨k + 1, _, by omega, by go_num, World.drewN_drewN _ _ _⟩
        case measure => simp [intOf]; omega
      · obtain rfl : k = p.length := by omega
        have hno : blankC c = false := by
          rw [List.getElem?_append_right (Nat.le_refl _), Nat.sub_self] at hxx
          cases hqq : q with
          | nil => rw [hqq] at hxx; simp at hxx
          | cons y r =>
            rw [hqq] at hxx
            have : y = c := by simpa using hxx
            subst this
            exact HQ.out y r hqq
        have KC : Hid (∀ n, Calls Tryd.prog 53 #[.int .u8 (c.toNat : Int)] (w.drewN n) (Says (.bool false) (w.drewN n))) := fun n => by rw [← hno]; exact blank c _
        clear hxx hno
        generalize (c.toNat : Int) = z at ck KC
        go_wp2
        go_quiet (exact (KC.out _).mono fun _ _ h => ⟨h.1, _, h.2.symm⟩)
        go_wp2
        go_ret
        first | exact ⟨rfl, _, rfl⟩ | exact ⟨rfl, _, World.drewN_drewN _ _ _⟩
    · have t1 : decide ((j : Int) < (l.length : Int)) = false := by simp; omega
      have t1' : decide (j < l.length) = false := by simp; omega
      have HJ := Lib.hid hj
      clear hj
      obtain rfl : k = p.length := by omega
      go_wp2
      go_quiet (fail)
      go_wp2
      go_ret
      first | exact ⟨rfl, _, rfl⟩ | exact ⟨rfl, _, World.drewN_drewN _ _ _⟩

set_option maxHeartbeats 2000000 in
theorem reach24 (l p q : List UInt8) (g i cap : Nat) (a : Option Addr) {w : World} (hl : l.length ≤ 1000000) (hi : i ≤ l.length) (hb : Bytes w a cap l) (e : l.drop i = p ++ q) (hp : ∀ x ∈ p, lineC x = true) (hq : Ends lineC q)
    (c0 : w.cell? ⟨g, 0, none⟩ = some (.slice a l.length cap)) (c1 : w.cell? ⟨g, 1, none⟩ = some (.int .i64 (i : Int))) :
    Calls Tryd.prog 49 #[.pointer (some ⟨g, 0, none⟩), .func (.func 54) #[] #[]] w (Saw (.int .i64 (p.length : Int)) w) := by
  have HP := Lib.hid hp
  have HQ := Lib.hid hq
  have HB := Lib.hid hb
  have hle := hb.le
  have hsum : i + (p.length + q.length) = l.length := by
    have := congrArg List.length e
    simp at this; omega
  have HE := Lib.hid e
  clear hp hq hb e
  go_enter Tryd.func49, Tryd.ntmps49
  go_wp2
  go_loopw [5] (fun k W => ReachRel p.length w k W) (fun k _ => p.length - (intOf k).toNat)
  case atStart => exact ⟨0, 0, by omega, rfl, rfl⟩
  case round =>
    obtain ⟨k, m, hk, rfl, rfl⟩ := hrel
    obtain ⟨j, hj⟩ : ∃ j, j = i + k := ⟨_, rfl⟩
    have hw : IntKind.i64.wrap ((i : Int) + (k : Int)) = (j : Int) := by rw [IntWalk.i64_in _ ⟨by omega, by omega⟩]; omega
    by_cases hend : i + k < l.length
    · have t1 : decide ((j : Int) < (l.length : Int)) = true := by simp; omega
      have t2 : j < l.length := by omega
      obtain ⟨b, off, rfl, _, hc⟩ := HB.out.at_ (by omega)
      have hx : l[i + k]? = some (l[i + k]'hend) := List.getElem?_eq_getElem _
      have ck : w.cell? ⟨b, off + j, none⟩ = some (.int .u8 ((l[i + k]'hend).toNat : Int)) := by rw [hj]; exact hc _ _ hx
      have HJ := Lib.hid hj
      clear hj
      have hxx := hx
      rw [drop_at HE.out] at hxx
      clear hc hx
      generalize l[i + k]'hend = c at ck hxx
      by_cases hkp : k < p.length
      · rw [List.getElem?_append_left hkp] at hxx
        have hyes := HP.out c (List.mem_of_getElem? hxx)
        have KC : Hid (∀ n, Calls Tryd.prog 54 #[.int .u8 (c.toNat : Int)] (w.drewN n) (Says (.bool true) (w.drewN n))) := fun n => by rw [← hyes]; exact inLine c _
        clear hxx hyes
        generalize (c.toNat : Int) = z at ck KC
        go_wp2
        go_quiet (exact (KC.out _).mono fun _ _ h => ⟨h.1, _, h.2.symm⟩)
        go_wp2
        go_roundw
        case rel => first | exact ⟨k + 1, _, by omega, by go_num, rfl⟩ | exact ⟨k + 1, _, by omega, by go_num, World.drewN_drewN _ _ _⟩
        case measure => simp [intOf]; omega
      · obtain rfl : k = p.length := by omega
        have hno : lineC c = false := by
          rw [List.getElem?_append_right (Nat.le_refl _), Nat.sub_self] at hxx
          cases hqq : q with
          | nil => rw [hqq] at hxx; simp at hxx
          | cons y r =>
            rw [hqq] at hxx
            have : y = c := by simpa using hxx
            subst this
            exact HQ.out y r hqq
        have KC : Hid (∀ n, Calls Tryd.prog 54 #[.int .u8 (c.toNat : Int)] (w.drewN n) (Says (.bool false) (w.drewN n))) := fun n => by rw [← hno]; exact inLine c _
        clear hxx hno
        generalize (c.toNat : Int) = z at ck KC
        go_wp2
        go_quiet (exact (KC.out _).mono fun _ _ h => ⟨h.1, _, h.2.symm⟩)
        go_wp2
        go_ret
        first | exact ⟨rfl, _, rfl⟩ | exact ⟨rfl, _, World.drewN_drewN _ _ _⟩
    · have t1 : decide ((j : Int) < (l.length : Int)) = false := by simp; omega
      have t1' : decide (j < l.length) = false := by simp; omega
      have HJ := Lib.hid hj
      clear hj
      obtain rfl : k = p.length := by omega
      go_wp2
      go_quiet (fail)
      go_wp2
      go_ret
      first | exact ⟨rfl, _, rfl⟩ | exact ⟨rfl, _, World.drewN_drewN _ _ _⟩
end Go.Proofs.YtbijgmaeechmoaaDoor.Lx
