/- ChpB ChpC ChpD. -/
import Derived.Test.YtjeinblcpejpnabGreatDoorChpA
import Derived.Deep.RegionHeld3
import Derived.Deep.DrawnRows

/- The chip's small methods: Down, Next, Wear, Bad, there, Arm, Weaken, ready, gives. -/
namespace Go.Proofs.YtjeinblcpejpnabGreatDoor
open Go.RowKit

theorem neq_nil (w : World) : (binOp .neq 85 .nilFunc .nilFunc).run Tryz.prog w = .ok (.bool false) w := by kernel_rfl
theorem neq_fn (f : Fn) (a c : Array Value) (w : World) : (binOp .neq 85 (.func f a c) .nilFunc).run Tryz.prog w = .ok (.bool true) w := by kernel_rfl

/-- The function that waits for Restart. -/
def fellV (b1 b2 : Nat) : Value := .func (.func 102) #[] #[.pointer (some ⟨b1, 0, none⟩), .pointer (some ⟨b2, 0, none⟩)]
/-- What becomes of the step in which the machine fell, in memory. -/
def FellAt (w : World) (cb : Nat) : Option Pend → Value → Prop
  | none, fv => fv = .nilFunc
  | some (.write b d), fv => ∃ b1 b2 kb pb, fv = fellV b1 b2 ∧ ¬ b1 = cb ∧ ¬ b2 = cb ∧ ¬ kb = cb ∧ ¬ pb = cb ∧ b < 24 ∧ d.length = 64 ∧
      Blk w b1 #[.func (.func 78) #[] #[.pointer (some ⟨kb, 0, none⟩), .pointer (some ⟨pb, 0, none⟩)]] 1 ∧ Blk w b2 #[.func (.func 80) #[] #[.pointer (some ⟨kb, 0, none⟩)]] 1 ∧
      Blk w kb #[.pointer (some ⟨cb, b * 524, none⟩)] 137 ∧ Blk w pb (pgCells (.whole d)).toArray 80
  | some (.erase b), fv => ∃ b1 b2 kb, fv = fellV b1 b2 ∧ ¬ b1 = cb ∧ ¬ b2 = cb ∧ ¬ kb = cb ∧ b < 24 ∧
      Blk w b1 #[.func (.func 98) #[] #[.pointer (some ⟨kb, 0, none⟩)]] 1 ∧ Blk w b2 #[.func (.func 100) #[] #[.pointer (some ⟨kb, 0, none⟩)]] 1 ∧
      Blk w kb #[.pointer (some ⟨cb, b * 524, none⟩)] 137
/-- A write that waits finds a blank page. -/
def PendOk (M : CM) : Prop := ∀ b d, M.pend = some (.write b d) → (M.pg b).length < 8
/-- The chip M lies in block cb. -/
structure ChipAt (w : World) (cb : Nat) (M : CM) : Prop where
  cells : ∃ cs fv, Blk w cb cs 87 ∧ Rep cs M fv ∧ FellAt w cb M.pend fv
  ok : PendOk M

theorem Blk.grown {w w' : World} {b cb : Nat} {cs : Array Value} {t : TypeId} (h : Blk w b cs t) (hg : w.grownBy w' (some cb)) (hne : ¬ b = cb) : Blk w' b cs t :=
  ⟨by rw [hg.block b h.lt (by simpa using hne)]; exact h.blk⟩
theorem FellAt.grown {w w' : World} {cb : Nat} {p : Option Pend} {fv : Value} (h : FellAt w cb p fv) (hg : w.grownBy w' (some cb)) : FellAt w' cb p fv := by
  match p, h with
  | none, h => exact h
  | some (.write b d), ⟨b1, b2, kb, pb, e, n1, n2, n3, n4, hb, hd, k1, k2, k3, k4⟩ => exact ⟨b1, b2, kb, pb, e, n1, n2, n3, n4, hb, hd, k1.grown hg n1, k2.grown hg n2, k3.grown hg n3, k4.grown hg n4⟩
  | some (.erase b), ⟨b1, b2, kb, e, n1, n2, n3, hb, k1, k2, k3⟩ => exact ⟨b1, b2, kb, e, n1, n2, n3, hb, k1.grown hg n1, k2.grown hg n2, k3.grown hg n3⟩
theorem grow_refl (w : World) (r : Option Nat) : w.grownBy w r := ⟨rfl, rfl, rfl, Nat.le_refl _, fun _ _ _ => rfl⟩
theorem grow_trans {a b c : World} {r : Option Nat} (h : a.grownBy b r) (k : b.grownBy c r) : a.grownBy c r :=
  ⟨k.os.trans h.os, k.tape.trans h.tape, k.output.trans h.output, Nat.le_trans h.size k.size, fun i hi hne => (k.block i (Nat.lt_of_lt_of_le hi h.size) hne).trans (h.block i hi hne)⟩
theorem grow_set (w : World) (b o : Nat) (v : Value) : w.grownBy (w.setCell ⟨b, o, none⟩ v) (some b) :=
  ⟨rfl, rfl, rfl, by simp [World.setCell], fun k _ hne => Below.heap_setCell _ _ _ _ (fun e => hne (by rw [e]))⟩
theorem grow_alloc (w : World) (o : Obj) (r : Option Nat) : w.grownBy (w.alloc o) r := World.grownBy_alloc w o r
theorem grow_ext {a b : World} (h : Ext a b) (r : Option Nat) : a.grownBy b r := ⟨h.below.os, h.below.tape, h.below.output, h.size, fun k hk _ => h.below.block k hk⟩
theorem ChipAt.ext {w w' : World} {cb : Nat} {M : CM} (h : ChipAt w cb M) (hx : Ext w w') : ChipAt w' cb M := by
  obtain ⟨⟨cs, fv, h1, h2, h3⟩, hok⟩ := h
  exact ⟨⟨cs, fv, h1.ext hx, h2, h3.grown (grow_ext hx _)⟩, hok⟩

def downB (M : CM) : Bool := M.pend.isSome
theorem ChipAt.down {w : World} {cb : Nat} {M : CM} (h : ChipAt w cb M) : (downB M = false ∧ w.cell? ⟨cb, 12577, none⟩ = some .nilFunc) ∨ (downB M = true ∧ ∃ b1 b2, w.cell? ⟨cb, 12577, none⟩ = some (fellV b1 b2)) := by
  obtain ⟨⟨cs, fv, h1, h2, h3⟩, _⟩ := h
  have hc := h1.cell 12577
  rw [h2.fell] at hc
  unfold downB
  match hp : M.pend with
  | none => rw [hp] at h3; rw [h3] at hc; exact .inl ⟨rfl, hc⟩
  | some (.write b d) => rw [hp] at h3; obtain ⟨b1, b2, _, _, e, _⟩ := h3; rw [e] at hc; exact .inr ⟨rfl, b1, b2, hc⟩
  | some (.erase b) => rw [hp] at h3; obtain ⟨b1, b2, _, e, _⟩ := h3; rw [e] at hc; exact .inr ⟨rfl, b1, b2, hc⟩

set_option maxRecDepth 100000 in
set_option maxHeartbeats 1000000 in
theorem down_any (cb : Nat) (M : CM) (w : World) (h : ChipAt w cb M) :
    Calls Tryz.prog 48 #[.pointer (some ⟨cb, 0, none⟩)] w fun e w' => e = .returned (.bool (downB M)) ∧ w' = w := by
  rcases h.down with ⟨hd, hc⟩ | ⟨hd, b1, b2, hc⟩
  · have n0 := neq_nil
    have HD : Hid (downB M = false) := hd
    clear h hd
    go_enter Tryz.func48, Tryz.ntmps48
    go_wp2
    go_ret
    exact ⟨by rw [HD.out]; rfl, rfl⟩
  · have n1 := neq_fn
    have HD : Hid (downB M = true) := hd
    clear h hd
    unfold fellV at hc
    go_enter Tryz.func48, Tryz.ntmps48
    go_wp2
    go_ret
    exact ⟨by rw [HD.out]; rfl, rfl⟩

def thereB (b : Int) : Bool := decide (0 ≤ b) && decide (b < 24)
set_option maxHeartbeats 400000 in
theorem there_yes (b : Int) (w : World) (h0 : 0 ≤ b) (h1 : b < 24) :
    Calls Tryz.prog 57 #[.int .i64 b] w fun e w' => e = .returned (.bool true) ∧ w' = w := by
  go_enter Tryz.func57, Tryz.ntmps57
  go_wp2
  go_ret
  exact ⟨rfl, rfl⟩
set_option maxHeartbeats 400000 in
theorem there_no (b : Int) (w : World) (h : b < 0 ∨ 24 ≤ b) :
    Calls Tryz.prog 57 #[.int .i64 b] w fun e w' => e = .returned (.bool false) ∧ w' = w := by
  rcases h with h | h
  · have h' : decide (0 ≤ b) = false := by simp; omega
    go_enter Tryz.func57, Tryz.ntmps57
    go_wp2
    go_ret
    exact ⟨rfl, rfl⟩
  · have h1 : 0 ≤ b := by omega
    have h' : decide (b < 24) = false := by simp; omega
    go_enter Tryz.func57, Tryz.ntmps57
    go_wp2
    go_ret
    exact ⟨rfl, rfl⟩

/-- The cells of a block that there is. -/
theorem ChipAt.at {w : World} {cb : Nat} {M : CM} (h : ChipAt w cb M) {b : Nat} (hb : b < 24) :
    w.cell? ⟨cb, b * 524 + 520, none⟩ = some (.int .i64 ((M.pg b).length : Int)) ∧ w.cell? ⟨cb, b * 524 + 521, none⟩ = some (.int .i64 (M.wr b : Int)) ∧ w.cell? ⟨cb, b * 524 + 522, none⟩ = some (.bool (M.wk b)) ∧ w.cell? ⟨cb, b * 524 + 523, none⟩ = some (.bool (M.bd b)) := by
  obtain ⟨⟨cs, fv, h1, h2, h3⟩, _⟩ := h
  have hr := h2.blk b hb
  exact ⟨by rw [h1.cell]; exact hr.nx, by rw [h1.cell]; exact hr.cwr, by rw [h1.cell]; exact hr.cwk, by rw [h1.cell]; exact hr.cbd⟩

set_option maxHeartbeats 400000 in
theorem next_any (cb b : Nat) (M : CM) (w : World) (hb : b < 24) (h : ChipAt w cb M) :
    Calls Tryz.prog 33 #[.pointer (some ⟨cb, 0, none⟩), .int .i64 (b : Int)] w fun e w' => e = .returned (.int .i64 ((M.pg b).length : Int)) ∧ w' = w := by
  obtain ⟨c0, _, _, _⟩ := h.at hb
  have h1 : (0 : Int) ≤ b := by omega
  have h2 : (b : Int) < 24 := by omega
  clear h
  generalize ((M.pg b).length : Int) = n at *
  go_enter Tryz.func33, Tryz.ntmps33
  go_wp2_with (go_at_call 57; refine (there_yes _ _ h1 h2).mono ?_; rintro e w' ⟨rfl, rfl⟩)
  go_ret
  exact ⟨rfl, rfl⟩
end Go.Proofs.YtjeinblcpejpnabGreatDoor

/- The chip's methods that change a cell: Arm, Weaken, gives; and ready. -/
namespace Go.Proofs.YtjeinblcpejpnabGreatDoor
open Go.RowKit

/-- What Weaken answers. -/
def weakenE (b : Int) : Int := if 2 ≤ b ∧ b < 24 then 0 else 1
def weakenM (M : CM) (b : Int) : CM := if 2 ≤ b ∧ b < 24 then { M with wk := upd M.wk b.toNat true } else M
theorem upd_id {α : Type} (f : Nat → α) (b : Nat) : upd f b (f b) = f := by
  funext c; unfold upd; split
  · rename_i h; rw [h]
  · rfl
theorem Rep.setWk {cs : Array Value} {M : CM} {fv : Value} (h : Rep cs M fv) {b : Nat} (hb : b < 24) (x : Bool) : Rep (cs.setIfInBounds (b * 524 + 522) (.bool x)) { M with wk := upd M.wk b x } fv := by
  have := h.block (cs' := cs.setIfInBounds (b * 524 + 522) (.bool x)) hb (by simp) (fun i hi => by rw [Array.getElem?_setIfInBounds_ne (by omega)]) ((h.blk b hb).setWk (by have := h.size; omega) x)
  simpa only [upd_id] using this
theorem Rep.setBd {cs : Array Value} {M : CM} {fv : Value} (h : Rep cs M fv) {b : Nat} (hb : b < 24) (x : Bool) : Rep (cs.setIfInBounds (b * 524 + 523) (.bool x)) { M with bd := upd M.bd b x } fv := by
  have := h.block (cs' := cs.setIfInBounds (b * 524 + 523) (.bool x)) hb (by simp) (fun i hi => by rw [Array.getElem?_setIfInBounds_ne (by omega)]) ((h.blk b hb).setBd (by have := h.size; omega) x)
  simpa only [upd_id] using this

/-- What speaks against a step. -/
def readyE (M : CM) (b : Int) : Int := if downB M then 9 else if 0 ≤ b ∧ b < 24 then (if M.bd b.toNat then 7 else 0) else 1

set_option maxRecDepth 100000 in
set_option maxHeartbeats 1000000 in
theorem ready_any (cb : Nat) (b : Int) (M : CM) (w : World) (h : ChipAt w cb M) :
    Calls Tryz.prog 75 #[.pointer (some ⟨cb, 0, none⟩), .int .i64 b] w fun e w' => e = .returned (errV (readyE M b)) ∧ w' = w := by
  cases hd : downB M with
  | true =>
    have HR : Hid (readyE M b = 9) := by unfold readyE Hid; rw [hd]; rfl
    go_enter Tryz.func75, Tryz.ntmps75
    go_wp2_with (go_at_call 48; refine (down_any cb M _ h).mono ?_; rw [hd]; rintro e w' ⟨rfl, rfl⟩)
    go_ret
    exact ⟨by rw [HR.out]; rfl, rfl⟩
  | false =>
    by_cases hb : 0 ≤ b ∧ b < 24
    · obtain ⟨hb1, hb2⟩ := hb
      obtain ⟨b, rfl⟩ := Int.eq_ofNat_of_zero_le hb1
      have hb3 : b < 24 := by omega
      obtain ⟨_, _, _, c0⟩ := h.at hb3
      cases hx : M.bd b with
      | true =>
        have HR : Hid (readyE M (b : Int) = 7) := by unfold readyE Hid; rw [hd, if_neg (by simp), if_pos ⟨hb1, hb2⟩, Int.toNat_natCast, hx]; rfl
        rw [hx] at c0
        clear hx
        go_enter Tryz.func75, Tryz.ntmps75
        go_wp2_with (first
          | (go_at_call 48; refine (down_any cb M _ h).mono ?_; rw [hd]; rintro e w' ⟨rfl, rfl⟩)
          | (go_at_call 57; refine (there_yes _ _ hb1 hb2).mono ?_; rintro e w' ⟨rfl, rfl⟩))
        go_ret
        exact ⟨by rw [HR.out]; rfl, rfl⟩
      | false =>
        have HR : Hid (readyE M (b : Int) = 0) := by unfold readyE Hid; rw [hd, if_neg (by simp), if_pos ⟨hb1, hb2⟩, Int.toNat_natCast, hx]; rfl
        rw [hx] at c0
        clear hx
        go_enter Tryz.func75, Tryz.ntmps75
        go_wp2_with (first
          | (go_at_call 48; refine (down_any cb M _ h).mono ?_; rw [hd]; rintro e w' ⟨rfl, rfl⟩)
          | (go_at_call 57; refine (there_yes _ _ hb1 hb2).mono ?_; rintro e w' ⟨rfl, rfl⟩))
        go_ret
        exact ⟨by rw [HR.out]; rfl, rfl⟩
    · have HR : Hid (readyE M b = 1) := by unfold readyE Hid; rw [hd, if_neg (by simp), if_neg hb]
      have hb' : b < 0 ∨ 24 ≤ b := by omega
      clear hb
      go_enter Tryz.func75, Tryz.ntmps75
      go_wp2_with (first
        | (go_at_call 48; refine (down_any cb M _ h).mono ?_; rw [hd]; rintro e w' ⟨rfl, rfl⟩)
        | (go_at_call 57; refine (there_no _ _ hb').mono ?_; rintro e w' ⟨rfl, rfl⟩))
      go_ret
      exact ⟨by rw [HR.out]; rfl, rfl⟩

/-- A weakened block gives way. -/
def givesM (M : CM) (b : Nat) : CM := if M.wk b then { M with bd := upd M.bd b true } else M
set_option maxRecDepth 100000 in
set_option maxHeartbeats 1000000 in
theorem gives_any (cb b : Nat) (M : CM) (w : World) (hb : b < 24) (h : ChipAt w cb M) :
    Calls Tryz.prog 76 #[.pointer (some ⟨cb, b * 524, none⟩)] w fun e w' => e = .returned (.bool (M.wk b)) ∧ ChipAt w' cb (givesM M b) ∧ w.grownBy w' (some cb) ∧ (M.wk b = false → w' = w) := by
  obtain ⟨_, _, c0, c1⟩ := h.at hb
  obtain ⟨⟨cs, fv, h1, h2, h3⟩, hok⟩ := h
  have f1 := h1.free (b * 524 + 523)
  cases hx : M.wk b with
  | true =>
    have HM : Hid (givesM M b = { M with bd := upd M.bd b true }) := by unfold givesM Hid; rw [hx]; rfl
    rw [hx] at c0
    clear hx
    generalize M.bd b = y at *
    go_enter Tryz.func76, Tryz.ntmps76
    go_wp2
    go_ret
    refine ⟨rfl, ?_, grow_set _ _ _ _, by simp⟩
    rw [HM.out]
    exact ⟨⟨_, fv, h1.set _ _, h2.setBd hb true, h3.grown (grow_set _ _ _ _)⟩, hok⟩
  | false =>
    have HM : Hid (givesM M b = M) := by unfold givesM Hid; rw [hx]; rfl
    rw [hx] at c0
    clear hx
    go_enter Tryz.func76, Tryz.ntmps76
    go_wp2
    go_ret
    refine ⟨rfl, ?_, grow_refl _ _, fun _ => rfl⟩
    rw [HM.out]
    exact ⟨⟨_, fv, h1, h2, h3⟩, hok⟩

end Go.Proofs.YtjeinblcpejpnabGreatDoor

/- A page is laid, a block is wiped. -/
namespace Go.Proofs.YtjeinblcpejpnabGreatDoor
open Go.RowKit
attribute [local go_sem ↓] Go.wp_at_zero Go.wp_at_succ

theorem grow_drew {a b : World} {r : Option Nat} (h : a.grownBy b r) : a.grownBy b.drew r := ⟨h.os, h.tape, h.output, h.size, h.block⟩
theorem Tryz.size83 : (Tryz.prog.info? 80).map (·.size) = some 65 := by kernel_rfl

set_option maxRecDepth 100000 in
set_option maxHeartbeats 2000000 in
theorem lay_cells (cb b n : Nat) (P : List Value) (cs : Array Value) (w : World) (hb : b < 24) (hn : n < 8) (hP : P.length = 65) (h1 : ∀ v ∈ P, v.oneCell' = true) (hk : Blk w cb cs 87) (hs : cs.size = 12578) (hnx : cs[b * 524 + 520]? = some (.int .i64 (n : Int))) :
    Calls Tryz.prog 79 #[.pointer (some ⟨cb, b * 524, none⟩), .agg P.toArray] w fun e w' => e = .returned (.tuple #[]) ∧
      Blk w' cb ((putAt cs (b * 524 + n * 65) P).setIfInBounds (b * 524 + 520) (.int .i64 ((n : Int) + 1))) 87 ∧ w.grownBy w' (some cb) := by
  have hi : (Tryz.prog.info? 80).map (·.size) = some P.length := by rw [hP]; exact Tryz.size83
  have hu := Tryz.underlying80
  have c0 := hk.cell (b * 524 + 520)
  rw [hnx] at c0
  have f0 := hk.free (b * 524 + 520)
  have hn0 : (0 : Int) ≤ (n : Int) := by omega
  have hn8 : (n : Int) < 8 := by omega
  go_enter Tryz.func79, Tryz.ntmps79
  go_wp2_with fail
  have hne : ¬ cb = w.heap.size := hk.ne_new
  have S0 : (w.alloc (.cells P.toArray 80)).cell? ⟨cb, b * 524 + 520, none⟩ = some (.int .i64 (n : Int)) := by rw [(hk.alloc _).cell]; exact hnx
  have S1 : (w.alloc (.cells P.toArray 80)).rangeAt w.heap.size 0 P := by
    intro j v hj
    rw [Nat.zero_add, (Blk.new w P.toArray 80).cell]; simpa using hj
  have S2 : (w.alloc (.cells P.toArray 80)).there cb (b * 524 + n * 65) 65 := (hk.alloc _).there (by omega)
  refine wp_region_noPanic ?_
  refine wp_region_held_drew (S := fun w' => w'.cell? ⟨cb, b * 524 + 520, none⟩ = some (.int .i64 (n : Int)) ∧ w'.rangeAt w.heap.size 0 P ∧ w'.there cb (b * 524 + n * 65) 65) (by kernel_rfl) ⟨by simpa using S0, by simpa using S1, by simpa using S2⟩ (fun hHeld => ?_)
  refine wpAnyH_take (i := 0) (oi := { dst := some 4, op := Op.move (Operand.tmp 0), type := 137, pos := "chip.go:184", after := #[], guard := none }) (v := .pointer (some ⟨cb, b * 524, none⟩)) rfl (by kernel_rfl) (by kernel_rfl) (by kernel_rfl) (fun _ _ _ h => h) (Or.inl ⟨by rfl, ?_⟩) hHeld ?_
  · intro w' hS'; go_simp
  simp only [Act.put, List.setIfInBounds_toArray, List.set_cons_zero, List.set_cons_succ]
  refine wpAnyH_take (i := 1) (oi := { dst := some 5, op := Op.move (Operand.tmp 0), type := 137, pos := "chip.go:184", after := #[], guard := none }) (v := .pointer (some ⟨cb, b * 524, none⟩)) rfl (by kernel_rfl) (by kernel_rfl) (by kernel_rfl) (fun _ _ _ h => h) (Or.inl ⟨by rfl, ?_⟩) hHeld ?_
  · intro w' hS'; go_simp
  simp only [Act.put, List.setIfInBounds_toArray, List.set_cons_zero, List.set_cons_succ]
  refine wpAnyH_take (i := 2) (oi := { dst := some 6, op := Op.nilCheck (Operand.tmp 5), type := 0, pos := "chip.go:184", after := #[{ on := 1, ground := Ground.data }], guard := none }) (v := .pointer (some ⟨cb, b * 524, none⟩)) rfl (by kernel_rfl) (by kernel_rfl) (by kernel_rfl) (fun _ _ _ h => h) (Or.inl ⟨by rfl, ?_⟩) hHeld ?_
  · intro w' hS'; go_simp
  simp only [Act.put, List.setIfInBounds_toArray, List.set_cons_zero, List.set_cons_succ]
  refine wpAnyH_take (i := 3) (oi := { dst := some 7, op := Op.fieldAddr 83 (Operand.tmp 6) 1, type := 0, pos := "chip.go:184", after := #[{ on := 2, ground := Ground.data }], guard := none }) (v := .pointer (some ⟨cb, b * 524 + 520, none⟩)) rfl (by kernel_rfl) (by kernel_rfl) (by kernel_rfl) (fun _ _ _ h => h) (Or.inl ⟨by rfl, ?_⟩) hHeld ?_
  · intro w' hS'; go_simp
  simp only [Act.put, List.setIfInBounds_toArray, List.set_cons_zero, List.set_cons_succ]
  refine wpAnyH_take (i := 4) (oi := { dst := some 8, op := Op.load 3 (Operand.tmp 7), type := 3, pos := "chip.go:184", after := #[{ on := 3, ground := Ground.data }], guard := none }) (v := .int .i64 (n : Int)) rfl (by kernel_rfl) (by kernel_rfl) (by kernel_rfl) (fun _ _ _ h => h) (Or.inl ⟨by rfl, ?_⟩) hHeld ?_
  · intro w' hS'; obtain ⟨hS0, _, _⟩ := hS'; go_simp
  simp only [Act.put, List.setIfInBounds_toArray, List.set_cons_zero, List.set_cons_succ]
  refine wpAnyH_take (i := 5) (oi := { dst := some 9, op := Op.load 80 (Operand.tmp 3), type := 80, pos := "chip.go:184", after := #[], guard := none }) (v := .agg P.toArray) rfl (by kernel_rfl) (by kernel_rfl) (by kernel_rfl) (fun _ _ _ h => h) (yieldsIf_load_mid (by rfl) 80 (.tmp 3) rfl w.heap.size 0 rfl P _ (fun w' hS' => hS'.2.1) hu rfl hi) hHeld ?_
  simp only [Act.put, List.setIfInBounds_toArray, List.set_cons_zero, List.set_cons_succ]
  refine wpAnyH_take (i := 6) (oi := { dst := some 10, op := Op.nilCheck (Operand.tmp 4), type := 0, pos := "chip.go:184", after := #[{ on := 0, ground := Ground.data }], guard := none }) (v := .pointer (some ⟨cb, b * 524, none⟩)) rfl (by kernel_rfl) (by kernel_rfl) (by kernel_rfl) (fun _ _ _ h => h) (Or.inl ⟨by rfl, ?_⟩) hHeld ?_
  · intro w' hS'; go_simp
  simp only [Act.put, List.setIfInBounds_toArray, List.set_cons_zero, List.set_cons_succ]
  refine wpAnyH_take (i := 7) (oi := { dst := some 11, op := Op.fieldAddr 83 (Operand.tmp 10) 0, type := 0, pos := "chip.go:184", after := #[{ on := 6, ground := Ground.data }], guard := none }) (v := .pointer (some ⟨cb, b * 524, none⟩)) rfl (by kernel_rfl) (by kernel_rfl) (by kernel_rfl) (fun _ _ _ h => h) (Or.inl ⟨by rfl, ?_⟩) hHeld ?_
  · intro w' hS'; go_simp
  simp only [Act.put, List.setIfInBounds_toArray, List.set_cons_zero, List.set_cons_succ]
  refine wpAnyH_take (i := 8) (oi := { dst := some 12, op := Op.indexAddr 81 (Operand.tmp 11) (Operand.tmp 8), type := 0, pos := "chip.go:184", after := #[{ on := 7, ground := Ground.data }, { on := 4, ground := Ground.data }, { on := 0, ground := Ground.phase }, { on := 1, ground := Ground.phase }, { on := 2, ground := Ground.phase }, { on := 3, ground := Ground.phase }, { on := 4, ground := Ground.phase }, { on := 5, ground := Ground.phase }], guard := none }) (v := .pointer (some ⟨cb, b * 524 + n * 65, none⟩)) rfl (by kernel_rfl) (by kernel_rfl) (by kernel_rfl) (fun _ _ _ h => h) (Or.inl ⟨by rfl, ?_⟩) hHeld ?_
  · intro w' hS'; go_simp
  simp only [Act.put, List.setIfInBounds_toArray, List.set_cons_zero, List.set_cons_succ]
  refine wpAnyH_ready (rs := [9]) (by kernel_rfl) (by simp) ?_
  refine AllReadyH.cons (o := { dst := none, op := Op.store 80 (Operand.tmp 12) (Operand.tmp 9), type := 0, pos := "chip.go:184", after := #[{ on := 8, ground := Ground.data }, { on := 5, ground := Ground.data }, { on := 0, ground := Ground.phase }, { on := 1, ground := Ground.phase }, { on := 2, ground := Ground.phase }, { on := 3, ground := Ground.phase }, { on := 4, ground := Ground.phase }, { on := 5, ground := Ground.phase }], guard := none }) rfl (fun K hK => ?_) AllReadyH.nil
  rw [if_pos (by rfl)]
  refine wp_store_mid 80 (.tmp 12) (.tmp 9) rfl cb (b * 524 + n * 65) P.toArray rfl rfl (by simpa [hP] using hHeld.2.2) (by simpa using hi) (all_oneCell_toArray h1) ?_
  have hkW : Blk ((w.alloc (.cells P.toArray 80)).drew.setCells cb (b * 524 + n * 65) P.toArray.toList) cb (putAt cs (b * 524 + n * 65) P) 87 := by
    have := Blk.setCells P (Blk.drew (hk.alloc (.cells P.toArray 80))) (b * 524 + n * 65)
    simpa using this
  have T0 : ((w.alloc (.cells P.toArray 80)).drew.setCells cb (b * 524 + n * 65) P.toArray.toList).cell? ⟨cb, b * 524 + 520, none⟩ = some (.int .i64 (n : Int)) := by
    rw [hkW.cell, putAt_out _ _ _ _ (by omega)]; exact hnx
  have hgW : w.grownBy ((w.alloc (.cells P.toArray 80)).drew.setCells cb (b * 524 + n * 65) P.toArray.toList) (some cb) := by
    exact grow_trans (grow_drew (grow_alloc w (.cells P.toArray 80) (some cb))) (grow_setCells _ _)
  refine hK.out _ _ ⟨T0, ?_, ?_⟩ (fun _ => ?_)
  · refine World.rangeAt_setCells_apart (by simpa using S1) _ _ _ (.inl (Ne.symm hne))
  · exact World.there_setCells (by simpa using S2) _ _ _
  refine wpAnyH_done (by kernel_rfl) ?_ _
  refine NoPanic.normal ?_
  have T1 := hkW.free (b * 524 + 520)
  simp only [Act.put]
  generalize (w.alloc (.cells P.toArray 80)).drew.setCells cb (b * 524 + n * 65) P.toArray.toList = W at *
  clear S0 S1 S2 hHeld hK hk hnx c0 f0 hi hu
  go_wp2
  go_end0
  exact ⟨rfl, hkW.set _ _, grow_trans hgW (grow_set _ _ _ _)⟩

def pageV (st : Int) : List Value := .int .i64 st :: List.replicate 64 (.int .u8 0)
theorem pageV_len (st : Int) : (pageV st).length = 65 := by simp [pageV]
theorem pageV_one (st : Int) : ∀ v ∈ pageV st, v.oneCell' = true := by
  intro v hv
  simp only [pageV, List.mem_cons, List.mem_replicate] at hv
  rcases hv with rfl | ⟨_, rfl⟩ <;> rfl

def Z83 : Array Value := (pageV 0).toArray
theorem zero83 (w : World) : (zeroValue 80).run Tryz.prog w = .ok (.agg Z83) w := by kernel_rfl
theorem Z83_ne : (Z83 = #[]) = False := by simp [Z83, pageV]
theorem Z83_set (st : Int) : Z83.setIfInBounds 0 (.int .i64 st) = (pageV st).toArray := by simp [Z83, pageV]

theorem store_run (b o : Nat) (l : List Value) (w : World) (ht : w.there b o l.length) (h1 : ∀ v ∈ l, v.oneCell' = true) : (storeCells ⟨b, o, none⟩ l).run Tryz.prog w = .ok () (w.setCells b o l) := by
  have := run_storeCells_cells (P := Tryz.prog) b o l 0 w (fun j hj => by simpa using (ht j hj).1) (fun j hj => by simpa using (ht j hj).2) h1
  simpa using this
/-- Behind k rounds of a wipe. -/
structure Wiped (cs cs' : Array Value) (b k : Nat) (st : Int) : Prop where
  size : cs'.size = cs.size
  out : ∀ i, (i < b * 524 ∨ b * 524 + k * 65 ≤ i) → cs'[i]? = cs[i]?
  ins : ∀ p j, p < k → j < 65 → cs'[b * 524 + p * 65 + j]? = (pageV st)[j]?
set_option maxRecDepth 10000 in
theorem Wiped.step {cs cs' : Array Value} {b k : Nat} {st : Int} (h : Wiped cs cs' b k st) (hk : k < 8) (hb : b < 24) (hs : cs.size = 12578) : Wiped cs (putAt cs' (b * 524 + k * 65) (pageV st)) b (k + 1) st := by
  have hl := pageV_len st
  have hz := h.size
  refine ⟨by rw [putAt_size]; exact h.size, fun i hi => ?_, fun p j hp hj => ?_⟩
  · rw [putAt_out _ _ _ _ (by omega)]; exact h.out i (by omega)
  · by_cases e : p = k
    · subst e
      rw [putAt_in _ _ _ _ (by omega) (by omega)]
    · rw [putAt_out _ _ _ _ (by omega)]; exact h.ins p j (by omega) hj

set_option maxRecDepth 100000 in
set_option maxHeartbeats 2000000 in
theorem wipe_cells (cb b : Nat) (st nx wn : Nat) (cs : Array Value) (w : World) (hb : b < 24) (hwr : wn ≤ 1000000000) (hk : Blk w cb cs 87) (hs : cs.size = 12578)
    (hcw : cs[b * 524 + 521]? = some (.int .i64 (wn : Int))) :
    Calls Tryz.prog 99 #[.pointer (some ⟨cb, b * 524, none⟩), .int .i64 (st : Int), .int .i64 (nx : Int)] w fun e w' => e = .returned (.tuple #[]) ∧
      ∃ cs', Wiped cs cs' b 8 st ∧ Blk w' cb ((cs'.setIfInBounds (b * 524 + 520) (.int .i64 (nx : Int))).setIfInBounds (b * 524 + 521) (.int .i64 ((wn : Int) + 1))) 87 ∧ w.grownBy w' (some cb) := by
  have z0 := zero83
  have z1 := Z83_ne
  have z2 := Z83_set
  go_enter Tryz.func99, Tryz.ntmps99
  go_wp2_with fail
  go_loopw [7] (fun i wx => ∃ (k : Nat) (cs' : Array Value), k ≤ 8 ∧ i = .int .i64 k ∧ Wiped cs cs' b k st ∧ Blk wx cb cs' 87 ∧ w.grownBy wx (some cb)) (fun i _ => 8 - (intOf i).toNat)
  case atStart => exact ⟨0, cs, Nat.zero_le _, rfl, ⟨rfl, fun _ _ => rfl, fun p j hp => absurd hp (Nat.not_lt_zero _)⟩, hk, grow_refl _ _⟩
  case round =>
    obtain ⟨k, cs', hk8, rfl, hw, hkx, hgx⟩ := hrel
    by_cases hlt : k < 8
    · have hlt' : (k : Int) < 8 := by omega
      have hk0 : (0 : Int) ≤ (k : Int) := by omega
      have hth : wr.there cb (b * 524 + k * 65) (pageV (st : Int)).toArray.size := by
        rw [List.size_toArray, pageV_len]; exact hkx.there (by have := hw.size; omega)
      have hw' := hw.step hlt hb hs
      have hkx' := Blk.setCells (pageV (st : Int)) hkx (b * 524 + k * 65)
      have hgx' : w.grownBy (wr.setCells cb (b * 524 + k * 65) (pageV (st : Int))) (some cb) := grow_trans hgx (grow_setCells _ _)
      clear hk hcw hw hkx hgx
      have hsc := store_run cb (b * 524 + k * 65) (pageV (st : Int)) wr (by simpa using hth) (pageV_one _)
      clear hth
      go_wp2
      go_roundw
      case rel => exact ⟨k + 1, _, by omega, by go_num, hw', by simpa using hkx', by simpa using hgx'⟩
      case measure => simp [intOf]; omega
    · have hk88 : k = 8 := by omega
      subst hk88
      have n0 := hkx.cell (b * 524 + 520)
      have n1 := hkx.free (b * 524 + 520)
      have hsz : b * 524 + 520 < cs'.size := by have := hw.size; omega
      rw [Array.getElem?_eq_getElem hsz] at n0
      generalize cs'[b * 524 + 520] = oldn at *
      have m0 := hkx.cell (b * 524 + 521)
      rw [hw.out _ (by omega), hcw] at m0
      have m1 := hkx.free (b * 524 + 521)
      clear hk hcw z0 z1 z2
      go_wp2
      go_end0
      exact ⟨rfl, cs', hw, (hkx.set _ _).set _ _, grow_trans hgx (grow_trans (grow_set _ _ _ _) (grow_set _ _ _ _))⟩

end Go.Proofs.YtjeinblcpejpnabGreatDoor
