/- Entries: what Check, EntryFault, same, goneByte and LightEntries answer. -/
import Derived.Test.YtccdpoihhljlcaaRows
import Derived.WalkKit
import Derived.WalkSpells
import Derived.WalkLawsBesides
import Derived.Deep.QuietTactic
import Derived.BigQuiet
namespace Go.Proofs.Ytccdpoihhljlcaa
open Go.RowKit

/-- What is wrong with an entry: 3, 2, or 0: nothing. -/
def faultB (key val : ByteArray) (gone : Bool) : Int :=
  if key.toList = [] ∨ (gone = true ∧ ¬ val.toList = []) then 3 else if 8 < key.size ∨ 16 < val.size then 2 else 0
/-- An error by its number. -/
def errV (n : Int) : Value := if n = 0 then .nilIface else .iface 74 (.int .i64 n)
theorem faultB_cases (key val : ByteArray) (gone : Bool) : faultB key val gone = 3 ∨ faultB key val gone = 2 ∨ faultB key val gone = 0 := by
  unfold faultB; split
  · simp
  · split <;> simp
theorem ret_of {a b : Value} (h : a = b) : Ending.returned a = .returned b := by rw [h]

set_option maxHeartbeats 400000 in
theorem check_any (key val : ByteArray) (gone : Bool) (w : World) :
    Calls Try.prog 11 #[.agg #[.string key, .string val, .bool gone]] w fun e w' => e = .returned (errV (faultB key val gone)) ∧ ∃ c, w' = w.alloc (.cells c 30) := by
  go_enter Try.func11, Try.ntmps11
  go_wp2
  all_goals go_ret
  all_goals refine ⟨ret_of ?_, _, rfl⟩
  all_goals simp_all [faultB, errV]
  all_goals (first | omega | (rw [if_neg (by omega), if_pos (by omega)]) | (rw [if_neg (by omega)]; rfl) | (rw [if_pos (by omega)]; rfl))

set_option maxHeartbeats 400000 in
theorem fault_any (key val : ByteArray) (gone : Bool) (w : World) :
    Calls Try.prog 12 #[.agg #[.string key, .string val, .bool gone]] w fun e w' => e = .returned (.int .i64 (faultB key val gone)) ∧ ∃ c, w' = w.alloc (.cells c 30) := by
  go_enter Try.func12, Try.ntmps12
  go_wp2
  all_goals go_ret
  all_goals refine ⟨ret_of ?_, _, rfl⟩
  all_goals simp_all [faultB]
  all_goals (first | omega | (rw [if_neg (by omega), if_pos (by omega)]) | (rw [if_neg (by omega)]; rfl) | (rw [if_pos (by omega)]; rfl))

set_option maxHeartbeats 400000 in
theorem same_nil (f : Int) (w : World) :
    Calls Try.prog 10 #[.nilIface, .int .i64 f] w fun e w' => e = .returned (.bool (f == 0)) ∧ w' = w := by
  go_enter Try.func10, Try.ntmps10
  go_wp2
  all_goals go_ret
  all_goals exact ⟨by simp_all, rfl⟩

set_option maxHeartbeats 400000 in
theorem same_err (k f : Int) (w : World) :
    Calls Try.prog 10 #[.iface 74 (.int .i64 k), .int .i64 f] w fun e w' => e = .returned (.bool (decide (0 < f) && (k == f))) ∧ w' = w := by
  have hta : ∀ (v : Value) (w : World), (Instr.typeAssert (.iface 74 v) 27 74 true).run Try.prog w = .ok (.tuple #[v, .bool true]) w := fun _ _ => by kernel_rfl
  go_enter Try.func10, Try.ntmps10
  go_wp2
  all_goals go_ret
  all_goals refine ⟨ret_of ?_, rfl⟩
  all_goals simp_all
  all_goals (intro _; omega)

theorem same_self (f : Int) (hf : 0 ≤ f) (w : World) :
    Calls Try.prog 10 #[errV f, .int .i64 f] w fun e w' => e = .returned (.bool true) ∧ w' = w := by
  unfold errV
  by_cases h : f = 0
  · subst h
    rw [if_pos rfl]
    refine (same_nil 0 w).mono ?_
    rintro e w' ⟨rfl, rfl⟩
    exact ⟨by simp, rfl⟩
  · rw [if_neg h]
    refine (same_err f f w).mono ?_
    rintro e w' ⟨rfl, rfl⟩
    exact ⟨by simp; omega, rfl⟩

def goneN (g : Bool) : Int := if g then 1 else 0
set_option maxHeartbeats 400000 in
theorem gone_any (g : Bool) (w : World) :
    Calls Try.prog 40 #[.bool g] w fun e w' => e = .returned (.int .u8 (goneN g)) ∧ w' = w := by
  go_enter Try.func40, Try.ntmps40
  go_wp2
  all_goals go_ret
  all_goals exact ⟨by simp_all [goneN], rfl⟩

end Go.Proofs.Ytccdpoihhljlcaa
