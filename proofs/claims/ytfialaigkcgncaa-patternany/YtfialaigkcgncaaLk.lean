/- Which of this program's functions and types are the library's lock; that they are; the rest of a Once's parts. -/
import Derived.Test.YtfialaigkcgncaaCo
import Derived.Conc.MuLone
import Derived.Conc.MuData
import Derived.Defers
import Derived.Laws.LoneSync
import Derived.RegionCalls
import Derived.KernelRfl
namespace Go.Proofs.Ytfialaigkcgncaa
open Go.RowKit

abbrev link : Go.Conc.Locks.MuLink := { lock := 26, unlock := 27, ilock := 29, iunlock := 30, lockSlow := 37, unlockSlow := 40, disable := 33, enable := 35, acquire := 36, relMerge := 38, cas32 := 34, add32 := 39, tMutex := 43, tIMutex := 41, tPMutex := 54, tPIMutex := 57, tPI32 := 59, tUP := 61, tNoCopy := 36, tU32 := 30 }
theorem lib : Go.Conc.Locks.MuLib Try.prog link :=
  ⟨Try.func26, Try.func27, Try.func29, Try.func30, Try.func33, Try.func35, Try.func36, Try.func38, Try.func34, Try.func39,
   Try.underlying41, Try.runUnderlying41, Try.sizeOf41, Try.isAgg41, Try.zeroValue41,
   Try.underlying43, Try.runUnderlying43, Try.sizeOf43, Try.isAgg43, Try.zeroValue43,
   Try.underlying54, Try.runUnderlying54, Try.sizeOf54, Try.isAgg54, Try.zeroValue54,
   Try.underlying57, Try.runUnderlying57, Try.sizeOf57, Try.isAgg57, Try.zeroValue57,
   Try.underlying59, Try.runUnderlying59, Try.sizeOf59, Try.isAgg59, Try.zeroValue59,
   Try.underlying61, Try.runUnderlying61, Try.sizeOf61, Try.isAgg61, Try.zeroValue61,
   Try.underlying36, Try.runUnderlying36, Try.sizeOf36, Try.isAgg36, Try.zeroValue36,
   Try.underlying21, Try.runUnderlying21, Try.sizeOf21, Try.isAgg21, Try.zeroValue21, (by kernel_rfl)⟩

theorem not_run (x : Bool) (w : World) : (Op.unary .not (.bool x)).run Try.prog w = .ok (.bool (!x)) w := rfl
/-- Whether it was done: it wasn't. -/
theorem notDone (a : Addr) (w : World) (h : w.cell? a = some (.int .u32 0)) : Calls Try.prog 22 #[.pointer (some a)] w (Says (.bool false) w) := by
  have hl := run_call_load (P := Try.prog) Try.func25 (by kernel_rfl) (by kernel_rfl) (by kernel_rfl) .u32 (by kernel_rfl) h
  go_enter Try.func22, Try.ntmps22
  go_wp2
  go_ret
  exact ⟨rfl, rfl⟩
/-- 'Done' is stored, as a deferred call. -/
theorem done_deferred (a : Addr) (x : Value) (u : FrameMode) (w : World) (hc : w.cell? a = some x) (hz : w.frozen? a = false) :
    CallsD Try.prog 28 #[.pointer (some a), .bool true] u w fun e u' w' => u' = u ∧ (e = .returned (.tuple #[]) ∧ w' = w.drew.setCell a (.int .u32 1)) := by
  have hc' : w.drew.cell? a = some x := by go_simp
  have hz' : w.drew.frozen? a = false := by go_simp
  have hst := run_call_store (P := Try.prog) Try.func31 (by kernel_rfl) (by kernel_rfl) (by kernel_rfl) (by kernel_rfl) (k := .u32) (y := 1) hc' hz'
  go_enter_d Try.func28, Try.ntmps28
  go_wp2
  go_region_calls
  all_goals (go_end0; exact ⟨rfl, rfl⟩)
end Go.Proofs.Ytfialaigkcgncaa
