
/- The chip's small methods: Down, Next, Wear, Bad, there, Arm, Weaken, ready, gives. -/
import Derived.Test.YtpldeejagomfjaaChpA
namespace Go.Proofs.Ytpldeejagomfjaa
open Go.RowKit

theorem neq_nil (w : World) : (binOp .neq 54 .nilFunc .nilFunc).run Try.prog w = .ok (.bool false) w := by kernel_rfl
theorem neq_fn (f : Fn) (a c : Array Value) (w : World) : (binOp .neq 54 (.func f a c) .nilFunc).run Try.prog w = .ok (.bool true) w := by kernel_rfl

/-- The function that waits for Restart. -/
def fellV (b1 b2 : Nat) : Value := .func (.func 104) #[] #[.pointer (some ⟨b1, 0, none⟩), .pointer (some ⟨b2, 0, none⟩)]
/-- What becomes of the step in which the machine fell, in memory. -/
def FellAt (w : World) (cb : Nat) : Option Pend → Value → Prop
  | none, fv => fv = .nilFunc
  | some (.write b d), fv => ∃ b1 b2 kb pb, fv = fellV b1 b2 ∧ ¬ b1 = cb ∧ ¬ b2 = cb ∧ ¬ kb = cb ∧ ¬ pb = cb ∧ b < 24 ∧ d.length = 64 ∧
      Blk w b1 #[.func (.func 86) #[] #[.pointer (some ⟨kb, 0, none⟩), .pointer (some ⟨pb, 0, none⟩)]] 1 ∧ Blk w b2 #[.func (.func 88) #[] #[.pointer (some ⟨kb, 0, none⟩)]] 1 ∧
      Blk w kb #[.pointer (some ⟨cb, b * 524, none⟩)] 139 ∧ Blk w pb (pgCells (.whole d)).toArray 132
  | some (.erase b), fv => ∃ b1 b2 kb, fv = fellV b1 b2 ∧ ¬ b1 = cb ∧ ¬ b2 = cb ∧ ¬ kb = cb ∧ b < 24 ∧
      Blk w b1 #[.func (.func 91) #[] #[.pointer (some ⟨kb, 0, none⟩)]] 1 ∧ Blk w b2 #[.func (.func 93) #[] #[.pointer (some ⟨kb, 0, none⟩)]] 1 ∧
      Blk w kb #[.pointer (some ⟨cb, b * 524, none⟩)] 139
/-- A write that waits finds a blank page. -/
def PendOk (M : CM) : Prop := ∀ b d, M.pend = some (.write b d) → (M.pg b).length < 8
/-- The chip M lies in block cb. -/
structure ChipAt (w : World) (cb : Nat) (M : CM) : Prop where
  cells : ∃ cs fv, Blk w cb cs 138 ∧ Rep cs M fv ∧ FellAt w cb M.pend fv
  ok : PendOk M

theorem Blk.grown {w w' : World} {b cb : Nat} {cs : Array Value} {t : TypeId} (h : Blk w b cs t) (hg : w.grownBy w' (some cb)) (hne : ¬ b = cb) : Blk w' b cs t :=
  ⟨by rw [hg.block b h.lt (by simpa using hne)]; exact h.blk⟩
theorem FellAt.grown {w w' : World} {cb : Nat} {p : Option Pend} {fv : Value} (h : FellAt w cb p fv) (hg : w.grownBy w' (some cb)) : FellAt w' cb p fv := by
  match p, h with
  | none, h => exact h
  | some (.write b d), ⟨b1, b2, kb, pb, e, n1, n2, n3, n4, hb, hd, k1, k2, k3, k4⟩ => exact ⟨b1, b2, kb, pb, e, n1, n2, n3, n4, hb, hd, k1.grown hg n1, k2.grown hg n2, k3.grown hg n3, k4.grown hg n4⟩
  | some (.erase b), ⟨b1, b2, kb, e, n1, n2, n3, hb, k1, k2, k3⟩ => exact ⟨b1, b2, kb, e, n1, n2, n3, hb, k1.grown hg n1, k2.grown hg n2, k3.grown hg n3⟩
theorem grow_refl (w : World) (r : Option Nat) : w.grownBy w r := ⟨rfl, rfl, rfl, Nat.le_refl _, fun _ _ _ => rfl⟩
theorem grow_trans {a b c : World} {r : Option Nat} (h : a.grownBy b r) (k : b.grownBy c r) : a.grownBy c r :=
  ⟨k.os.trans h.os, k.tape.trans h.tape, k.output.trans h.output, Nat.le_trans h.size k.size, fun i hi hne => (k.block i (Nat.lt_of_lt_of_le hi h.size) hne).trans (h.block i hi hne)⟩
theorem grow_set (w : World) (b o : Nat) (v : Value) : w.grownBy (w.setCell ⟨b, o, none⟩ v) (some b) :=
  ⟨rfl, rfl, rfl, by simp [World.setCell], fun k _ hne => Below.heap_setCell _ _ _ _ (fun e => hne (by rw [e]))⟩
theorem grow_alloc (w : World) (o : Obj) (r : Option Nat) : w.grownBy (w.alloc o) r := World.grownBy_alloc w o r
theorem grow_ext {a b : World} (h : Ext a b) (r : Option Nat) : a.grownBy b r := ⟨h.below.os, h.below.tape, h.below.output, h.size, fun k hk _ => h.below.block k hk⟩
theorem ChipAt.ext {w w' : World} {cb : Nat} {M : CM} (h : ChipAt w cb M) (hx : Ext w w') : ChipAt w' cb M := by
  obtain ⟨⟨cs, fv, h1, h2, h3⟩, hok⟩ := h
  exact ⟨⟨cs, fv, h1.ext hx, h2, h3.grown (grow_ext hx _)⟩, hok⟩

def downB (M : CM) : Bool := M.pend.isSome
theorem ChipAt.down {w : World} {cb : Nat} {M : CM} (h : ChipAt w cb M) : (downB M = false ∧ w.cell? ⟨cb, 12577, none⟩ = some .nilFunc) ∨ (downB M = true ∧ ∃ b1 b2, w.cell? ⟨cb, 12577, none⟩ = some (fellV b1 b2)) := by
  obtain ⟨⟨cs, fv, h1, h2, h3⟩, _⟩ := h
  have hc := h1.cell 12577
  rw [h2.fell] at hc
  unfold downB
  match hp : M.pend with
  | none => rw [hp] at h3; rw [h3] at hc; exact .inl ⟨rfl, hc⟩
  | some (.write b d) => rw [hp] at h3; obtain ⟨b1, b2, _, _, e, _⟩ := h3; rw [e] at hc; exact .inr ⟨rfl, b1, b2, hc⟩
  | some (.erase b) => rw [hp] at h3; obtain ⟨b1, b2, _, e, _⟩ := h3; rw [e] at hc; exact .inr ⟨rfl, b1, b2, hc⟩

set_option maxRecDepth 100000 in
set_option maxHeartbeats 1000000 in
theorem down_any (cb : Nat) (M : CM) (w : World) (h : ChipAt w cb M) :
    Calls Try.prog 48 #[.pointer (some ⟨cb, 0, none⟩)] w fun e w' => e = .returned (.bool (downB M)) ∧ w' = w := by
  rcases h.down with ⟨hd, hc⟩ | ⟨hd, b1, b2, hc⟩
  · have n0 := neq_nil
    have HD : Hid (downB M = false) := hd
    clear h hd
    go_enter Try.func48, Try.ntmps48
    go_wp2
    go_ret
    exact ⟨by rw [HD.out]; rfl, rfl⟩
  · have n1 := neq_fn
    have HD : Hid (downB M = true) := hd
    clear h hd
    unfold fellV at hc
    go_enter Try.func48, Try.ntmps48
    go_wp2
    go_ret
    exact ⟨by rw [HD.out]; rfl, rfl⟩

def thereB (b : Int) : Bool := decide (0 ≤ b) && decide (b < 24)
set_option maxHeartbeats 400000 in
theorem there_yes (b : Int) (w : World) (h0 : 0 ≤ b) (h1 : b < 24) :
    Calls Try.prog 94 #[.int .i64 b] w fun e w' => e = .returned (.bool true) ∧ w' = w := by
  go_enter Try.func94, Try.ntmps94
  go_wp2
  go_ret
  exact ⟨rfl, rfl⟩
set_option maxHeartbeats 400000 in
theorem there_no (b : Int) (w : World) (h : b < 0 ∨ 24 ≤ b) :
    Calls Try.prog 94 #[.int .i64 b] w fun e w' => e = .returned (.bool false) ∧ w' = w := by
  rcases h with h | h
  · have h' : decide (0 ≤ b) = false := by simp; omega
    go_enter Try.func94, Try.ntmps94
    go_wp2
    go_ret
    exact ⟨rfl, rfl⟩
  · have h1 : 0 ≤ b := by omega
    have h' : decide (b < 24) = false := by simp; omega
    go_enter Try.func94, Try.ntmps94
    go_wp2
    go_ret
    exact ⟨rfl, rfl⟩

/-- The cells of a block that there is. -/
theorem ChipAt.at {w : World} {cb : Nat} {M : CM} (h : ChipAt w cb M) {b : Nat} (hb : b < 24) :
    w.cell? ⟨cb, b * 524 + 520, none⟩ = some (.int .i64 ((M.pg b).length : Int)) ∧ w.cell? ⟨cb, b * 524 + 521, none⟩ = some (.int .i64 (M.wr b : Int)) ∧ w.cell? ⟨cb, b * 524 + 522, none⟩ = some (.bool (M.wk b)) ∧ w.cell? ⟨cb, b * 524 + 523, none⟩ = some (.bool (M.bd b)) := by
  obtain ⟨⟨cs, fv, h1, h2, h3⟩, _⟩ := h
  have hr := h2.blk b hb
  exact ⟨by rw [h1.cell]; exact hr.nx, by rw [h1.cell]; exact hr.cwr, by rw [h1.cell]; exact hr.cwk, by rw [h1.cell]; exact hr.cbd⟩

set_option maxHeartbeats 400000 in
theorem next_any (cb b : Nat) (M : CM) (w : World) (hb : b < 24) (h : ChipAt w cb M) :
    Calls Try.prog 43 #[.pointer (some ⟨cb, 0, none⟩), .int .i64 (b : Int)] w fun e w' => e = .returned (.int .i64 ((M.pg b).length : Int)) ∧ w' = w := by
  obtain ⟨c0, _, _, _⟩ := h.at hb
  have h1 : (0 : Int) ≤ b := by omega
  have h2 : (b : Int) < 24 := by omega
  clear h
  generalize ((M.pg b).length : Int) = n at *
  go_enter Try.func43, Try.ntmps43
  go_wp2_with (go_at_call 94; refine (there_yes _ _ h1 h2).mono ?_; rintro e w' ⟨rfl, rfl⟩)
  go_ret
  exact ⟨rfl, rfl⟩
end Go.Proofs.Ytpldeejagomfjaa
