
/- Manifests on a chip: Note. -/
import Derived.Test.YtpldeejagomfjaaManJ
namespace Go.Proofs.Ytpldeejagomfjaa
open Go.RowKit Go.WideShapes

def manTxt (m : Man) : ByteArray := txtM (encM m.ep m.lg m.nw m.od)
/-- In which block it is noted; what is erased for it; what becomes of it. -/
def noteAt (M : CM) (a : Nat) : Nat := if (M.pg a).length = 8 then 1 - a else a
def noteE0 (M : CM) (a : Nat) : Int := if (M.pg a).length = 8 then eraseE M ((1 - a : Nat) : Int) else 0
def noteM0 (M : CM) (a : Nat) : CM := if (M.pg a).length = 8 then eraseM M ((1 - a : Nat) : Int) else M
def noteE (M : CM) (a : Nat) (s : ByteArray) : Int := if ¬ noteE0 M a = 0 then noteE0 M a else writeE (noteM0 M a) (noteAt M a : Int) s
def noteM (M : CM) (a : Nat) (s : ByteArray) : CM := if ¬ noteE0 M a = 0 then noteM0 M a else writeM (noteM0 M a) (noteAt M a : Int) s

theorem tick_left (M : CM) : (tickM M).left ≤ M.left ∨ (tickM M).left ≤ 0 := by unfold tickM; split <;> simp <;> omega
theorem eraseM_left (M : CM) (b : Int) {n : Int} (h : M.left ≤ n) (hn : 0 ≤ n) : (eraseM M b).left ≤ n := by
  unfold eraseM
  split
  · exact h
  · split
    · exact h
    · split
      · exact h
      · have := tick_left M
        show (tickM M).left ≤ n
        omega
theorem encM_size0 (m : Man) : (manTxt m).size = 7 + m.nw.length + m.od.length := by
  have := encM_size m.ep m.lg m.nw m.od 0
  simpa [manTxt] using this
theorem manTxt_le {m : Man} (h : manFault m = 0) : (manTxt m).size ≤ 30 ∧ m.nw.length + m.od.length ≤ 23 := by
  obtain ⟨_, hS⟩ := manF_zero h
  obtain ⟨hr, hnd, _⟩ := scan_zero hS
  have h24 := nodup_le hr hnd
  rw [encM_size0]
  simp at h24; omega
theorem manBytes_man (m : Man) (no oo : Option Addr) (nc oc : Nat) (w : World) (hn : NumsAt w no m.nw) (ho : NumsAt w oo m.od) (hf : manFault m = 0) :
    Calls Try.prog 70 #[.agg #[.int .i64 m.ep, .int .i64 m.lg, .slice no m.nw.length nc, .slice oo m.od.length oc]] w fun e w' => e = .returned (.tuple #[.string (manTxt m), .nilIface]) ∧ Ext w w' := by
  obtain ⟨hE, hS⟩ := manF_zero hf
  obtain ⟨hr, _, _⟩ := scan_zero hS
  have hG := hr m.lg (by simp)
  have hle := (manTxt_le hf).2
  obtain ⟨ep, lg, nw, od⟩ := m
  dsimp only at *
  obtain ⟨E, rfl⟩ := Int.eq_ofNat_of_zero_le (show 0 ≤ ep by omega)
  obtain ⟨G, rfl⟩ := Int.eq_ofNat_of_zero_le (show 0 ≤ lg by omega)
  exact manBytes_ok E G no oo nc oc nw od w (by omega) hn ho hf

set_option maxRecDepth 20000 in
set_option maxHeartbeats 1000000 in
theorem note_bad (cb a : Nat) (m : Man) (no oo : Option Addr) (nc oc : Nat) (w : World) (hl : m.nw.length + m.od.length ≤ 100) (hn : NumsAt w no m.nw) (ho : NumsAt w oo m.od) (hf : ¬ manFault m = 0) :
    Calls Try.prog 78 #[.pointer (some ⟨cb, 0, none⟩), .int .i64 (a : Int), .agg #[.int .i64 m.ep, .int .i64 m.lg, .slice no m.nw.length nc, .slice oo m.od.length oc]] w fun e w' => e = .returned (.tuple #[.int .i64 0, .iface 123 (.int .i64 (manFault m))]) ∧ Ext w w' := by
  have HB : Hid (∀ o, Calls Try.prog 70 #[.agg #[.int .i64 m.ep, .int .i64 m.lg, .slice no m.nw.length nc, .slice oo m.od.length oc]] (w.alloc o) fun e w' => e = .returned (.tuple #[.string ⟨#[]⟩, .iface 123 (.int .i64 (manFault m))]) ∧ Ext (w.alloc o) w') := fun o => manBytes_bad m.ep m.lg no oo nc oc m.nw m.od (w.alloc o) hl (hn.ext ((Ext.refl w).alloc o)) (ho.ext ((Ext.refl w).alloc o)) hf
  clear hn ho hf hl
  generalize manFault m = f at *
  go_enter Try.func78, Try.ntmps78
  go_wp2_with (go_at_call 70; refine (HB.out _).mono ?_; rintro e w2 ⟨rfl, hx2⟩)
  go_ret2
  exact ⟨rfl, ((Ext.refl w).alloc _).trans hx2⟩

def NoteEnd (cb : Nat) (M : CM) (a : Nat) (s : ByteArray) (w : World) (e : Ending) (w' : World) : Prop :=
  (noteE M a s = 0 ∧ e = .returned (.tuple #[.int .i64 (noteAt M a : Int), .nilIface]) ∨ ¬ noteE M a s = 0 ∧ e = .returned (.tuple #[.int .i64 0, .iface 123 (.int .i64 (noteE M a s))])) ∧ ChipAt w' cb (noteM M a s) ∧ w.grownBy w' (some cb)

set_option maxRecDepth 20000 in
set_option maxHeartbeats 2000000 in
theorem note_any (cb a : Nat) (M : CM) (m : Man) (no oo : Option Addr) (nc oc : Nat) (w : World) (h : ChipAt w cb M) (ha : a ≤ 1) (hub : M.left ≤ 9223372036854775807) (hwr : WrOk M) (hn : NumsAt w no m.nw) (ho : NumsAt w oo m.od) (hf : manFault m = 0) :
    Calls Try.prog 78 #[.pointer (some ⟨cb, 0, none⟩), .int .i64 (a : Int), .agg #[.int .i64 m.ep, .int .i64 m.lg, .slice no m.nw.length nc, .slice oo m.od.length oc]] w (NoteEnd cb M a (manTxt m) w) := by
  have HB : Hid (∀ o, Calls Try.prog 70 #[.agg #[.int .i64 m.ep, .int .i64 m.lg, .slice no m.nw.length nc, .slice oo m.od.length oc]] (w.alloc o) fun e w' => e = .returned (.tuple #[.string (manTxt m), .nilIface]) ∧ Ext (w.alloc o) w') := fun o => manBytes_man m no oo nc oc (w.alloc o) (hn.ext ((Ext.refl w).alloc o)) (ho.ext ((Ext.refl w).alloc o)) hf
  have hT := (manTxt_le hf).1
  have HN : Hid (∀ W, ChipAt W cb M → Calls Try.prog 43 #[.pointer (some ⟨cb, 0, none⟩), .int .i64 (a : Int)] W fun e w' => e = .returned (.int .i64 ((M.pg a).length : Int)) ∧ w' = W) := fun W hc => next_any cb a M W (by omega) hc
  have HW : Hid (∀ (M' : CM) (b : Nat) W, ChipAt W cb M' → M'.left ≤ 9223372036854775807 → Calls Try.prog 31 #[.pointer (some ⟨cb, 0, none⟩), .int .i64 (b : Int), .string (manTxt m)] W fun e w' => e = .returned (errV (writeE M' (b : Int) (manTxt m))) ∧ ChipAt w' cb (writeM M' (b : Int) (manTxt m)) ∧ W.grownBy w' (some cb)) := fun M' b W hc hl => write_any cb (b : Int) (manTxt m) M' W hc hl (by omega)
  have HE : Hid (∀ (b : Nat) W, ChipAt W cb M → Calls Try.prog 33 #[.pointer (some ⟨cb, 0, none⟩), .int .i64 (b : Int)] W fun e w' => e = .returned (errV (eraseE M (b : Int))) ∧ ChipAt w' cb (eraseM M (b : Int)) ∧ W.grownBy w' (some cb)) := fun b W hc => erase_any cb (b : Int) M W hc hub hwr
  clear hn ho hf hT
  generalize manTxt m = T at *
  by_cases hfull : (M.pg a).length = 8
  · have hfull' : ((M.pg a).length : Int) = 8 := by omega
    have HA : Hid (noteAt M a = 1 - a) := by unfold noteAt Hid; rw [if_pos hfull]
    have HE0 : Hid (noteE0 M a = eraseE M ((1 - a : Nat) : Int)) := by unfold noteE0 Hid; rw [if_pos hfull]
    have HM0 : Hid (noteM0 M a = eraseM M ((1 - a : Nat) : Int)) := by unfold noteM0 Hid; rw [if_pos hfull]
    have h1a : (1 : Int) - (a : Int) = ((1 - a : Nat) : Int) := by omega
    by_cases he : eraseE M ((1 - a : Nat) : Int) = 0
    · have HEL : Hid ((eraseM M ((1 - a : Nat) : Int)).left ≤ 9223372036854775807) := eraseM_left M _ hub (by decide)
      have HEE : Hid (∀ W, ChipAt W cb M → Calls Try.prog 33 #[.pointer (some ⟨cb, 0, none⟩), .int .i64 ((1 - a : Nat) : Int)] W fun e w' => e = .returned (.nilIface) ∧ ChipAt w' cb (eraseM M ((1 - a : Nat) : Int)) ∧ W.grownBy w' (some cb)) := fun W hc => by
        have := HE.out (1 - a) W hc; rw [he] at this; exact this
      by_cases hw : writeE (eraseM M ((1 - a : Nat) : Int)) ((1 - a : Nat) : Int) T = 0
      · have HR : Hid (noteE M a T = 0 ∧ noteM M a T = writeM (eraseM M ((1 - a : Nat) : Int)) ((1 - a : Nat) : Int) T) := by
          unfold noteE noteM Hid; rw [HE0.out, HM0.out, HA.out, if_neg (by simp [he]), if_neg (by simp [he])]; exact ⟨hw, rfl⟩
        have HWW : Hid (∀ W, ChipAt W cb (eraseM M ((1 - a : Nat) : Int)) → Calls Try.prog 31 #[.pointer (some ⟨cb, 0, none⟩), .int .i64 ((1 - a : Nat) : Int), .string T] W fun e w' => e = .returned .nilIface ∧ ChipAt w' cb (writeM (eraseM M ((1 - a : Nat) : Int)) ((1 - a : Nat) : Int) T) ∧ W.grownBy w' (some cb)) := fun W hc => by
          have := HW.out (eraseM M ((1 - a : Nat) : Int)) (1 - a) W hc HEL.out; rw [hw] at this; exact this
        have HC : Hid (ChipAt w cb M) := h
        clear hw hfull h he
        generalize eraseM M ((1 - a : Nat) : Int) = M1 at *
        generalize hA1 : 1 - a = a1 at *
        go_enter Try.func78, Try.ntmps78
        go_wp2_with (first
          | (go_at_call 70; refine (HB.out _).mono ?_; rintro e w2 ⟨rfl, hx2⟩)
          | (go_at_call 43; refine (HN.out _ (HC.out.ext (((Ext.refl w).alloc _).trans hx2))).mono ?_; rintro e w3 ⟨rfl, rfl⟩)
          | (go_at_call 33; refine (HEE.out _ (HC.out.ext (((Ext.refl w).alloc _).trans hx2))).mono ?_; rintro e w5 ⟨rfl, hc5, hg5⟩)
          | (go_at_call 31; refine (HWW.out _ hc5).mono ?_; rintro e w4 ⟨rfl, hc4, hg4⟩))
        go_ret2
        exact ⟨.inl ⟨HR.out.1, by rw [HA.out]; rfl⟩, by rw [HR.out.2]; exact hc4, grow_trans (grow_ext (((Ext.refl w).alloc _).trans hx2) _) (grow_trans hg5 hg4)⟩
      · have HR : Hid (noteE M a T = writeE (eraseM M ((1 - a : Nat) : Int)) ((1 - a : Nat) : Int) T ∧ noteM M a T = writeM (eraseM M ((1 - a : Nat) : Int)) ((1 - a : Nat) : Int) T) := by
          unfold noteE noteM Hid; rw [HE0.out, HM0.out, HA.out, if_neg (by simp [he]), if_neg (by simp [he])]; exact ⟨rfl, rfl⟩
        have HWW : Hid (∀ W, ChipAt W cb (eraseM M ((1 - a : Nat) : Int)) → Calls Try.prog 31 #[.pointer (some ⟨cb, 0, none⟩), .int .i64 ((1 - a : Nat) : Int), .string T] W fun e w' => e = .returned (.iface 123 (.int .i64 (writeE (eraseM M ((1 - a : Nat) : Int)) ((1 - a : Nat) : Int) T))) ∧ ChipAt w' cb (writeM (eraseM M ((1 - a : Nat) : Int)) ((1 - a : Nat) : Int) T) ∧ W.grownBy w' (some cb)) := fun W hc => by
          have := HW.out (eraseM M ((1 - a : Nat) : Int)) (1 - a) W hc HEL.out; unfold errV at this; rw [if_neg hw] at this; exact this
        have HC : Hid (ChipAt w cb M) := h
        have HNW : Hid (¬ writeE (eraseM M ((1 - a : Nat) : Int)) ((1 - a : Nat) : Int) T = 0) := hw
        clear hw hfull h he
        generalize writeE (eraseM M ((1 - a : Nat) : Int)) ((1 - a : Nat) : Int) T = f at *
        generalize eraseM M ((1 - a : Nat) : Int) = M1 at *
        generalize hA1 : 1 - a = a1 at *
        go_enter Try.func78, Try.ntmps78
        go_wp2_with (first
          | (go_at_call 70; refine (HB.out _).mono ?_; rintro e w2 ⟨rfl, hx2⟩)
          | (go_at_call 43; refine (HN.out _ (HC.out.ext (((Ext.refl w).alloc _).trans hx2))).mono ?_; rintro e w3 ⟨rfl, rfl⟩)
          | (go_at_call 33; refine (HEE.out _ (HC.out.ext (((Ext.refl w).alloc _).trans hx2))).mono ?_; rintro e w5 ⟨rfl, hc5, hg5⟩)
          | (go_at_call 31; refine (HWW.out _ hc5).mono ?_; rintro e w4 ⟨rfl, hc4, hg4⟩))
        go_ret2
        exact ⟨.inr ⟨by rw [HR.out.1]; exact HNW.out, by rw [HR.out.1]; rfl⟩, by rw [HR.out.2]; exact hc4, grow_trans (grow_ext (((Ext.refl w).alloc _).trans hx2) _) (grow_trans hg5 hg4)⟩
    · have HR : Hid (noteE M a T = eraseE M ((1 - a : Nat) : Int) ∧ noteM M a T = eraseM M ((1 - a : Nat) : Int)) := by
        unfold noteE noteM Hid; rw [HE0.out, HM0.out, if_pos he, if_pos he]; exact ⟨rfl, rfl⟩
      have HC : Hid (ChipAt w cb M) := h
      have HEE : Hid (∀ W, ChipAt W cb M → Calls Try.prog 33 #[.pointer (some ⟨cb, 0, none⟩), .int .i64 ((1 - a : Nat) : Int)] W fun e w' => e = .returned (.iface 123 (.int .i64 (eraseE M ((1 - a : Nat) : Int)))) ∧ ChipAt w' cb (eraseM M ((1 - a : Nat) : Int)) ∧ W.grownBy w' (some cb)) := fun W hc => by
        have := HE.out (1 - a) W hc; unfold errV at this; rw [if_neg he] at this; exact this
      have HNW : Hid (¬ eraseE M ((1 - a : Nat) : Int) = 0) := he
      clear hfull h he
      generalize eraseE M ((1 - a : Nat) : Int) = f at *
      generalize eraseM M ((1 - a : Nat) : Int) = M1 at *
      generalize hA1 : 1 - a = a1 at *
      go_enter Try.func78, Try.ntmps78
      go_wp2_with (first
        | (go_at_call 70; refine (HB.out _).mono ?_; rintro e w2 ⟨rfl, hx2⟩)
        | (go_at_call 43; refine (HN.out _ (HC.out.ext (((Ext.refl w).alloc _).trans hx2))).mono ?_; rintro e w3 ⟨rfl, rfl⟩)
        | (go_at_call 33; refine (HEE.out _ (HC.out.ext (((Ext.refl w).alloc _).trans hx2))).mono ?_; rintro e w5 ⟨rfl, hc5, hg5⟩))
      go_ret2
      exact ⟨.inr ⟨by rw [HR.out.1]; exact HNW.out, by rw [HR.out.1]; rfl⟩, by rw [HR.out.2]; exact hc5, grow_trans (grow_ext (((Ext.refl w).alloc _).trans hx2) _) hg5⟩
  · have hfull' : ¬ ((M.pg a).length : Int) = 8 := by omega
    have HA : Hid (noteAt M a = a) := by unfold noteAt Hid; rw [if_neg hfull]
    have HE0 : Hid (noteE0 M a = 0) := by unfold noteE0 Hid; rw [if_neg hfull]
    have HM0 : Hid (noteM0 M a = M) := by unfold noteM0 Hid; rw [if_neg hfull]
    by_cases hw : writeE M (a : Int) T = 0
    · have HR : Hid (noteE M a T = 0 ∧ noteM M a T = writeM M (a : Int) T) := by
        unfold noteE noteM Hid; rw [HE0.out, HM0.out, HA.out, if_neg (by simp), if_neg (by simp)]; exact ⟨hw, rfl⟩
      have HWW : Hid (∀ W, ChipAt W cb M → Calls Try.prog 31 #[.pointer (some ⟨cb, 0, none⟩), .int .i64 (a : Int), .string T] W fun e w' => e = .returned .nilIface ∧ ChipAt w' cb (writeM M (a : Int) T) ∧ W.grownBy w' (some cb)) := fun W hc => by
        have := HW.out M a W hc hub
        rw [hw] at this; exact this
      have HC : Hid (ChipAt w cb M) := h
      clear hw hfull h
      go_enter Try.func78, Try.ntmps78
      go_wp2_with (first
        | (go_at_call 70; refine (HB.out _).mono ?_; rintro e w2 ⟨rfl, hx2⟩)
        | (go_at_call 43; refine (HN.out _ (HC.out.ext (((Ext.refl w).alloc _).trans hx2))).mono ?_; rintro e w3 ⟨rfl, rfl⟩)
        | (go_at_call 31; refine (HWW.out _ (HC.out.ext (((Ext.refl w).alloc _).trans hx2))).mono ?_; rintro e w4 ⟨rfl, hc4, hg4⟩))
      go_ret2
      exact ⟨.inl ⟨HR.out.1, by rw [HA.out]; rfl⟩, by rw [HR.out.2]; exact hc4, grow_trans (grow_ext (((Ext.refl w).alloc _).trans hx2) _) hg4⟩
    · have HR : Hid (noteE M a T = writeE M (a : Int) T ∧ noteM M a T = writeM M (a : Int) T) := by
        unfold noteE noteM Hid; rw [HE0.out, HM0.out, HA.out, if_neg (by simp), if_neg (by simp)]; exact ⟨rfl, rfl⟩
      have HWW : Hid (∀ W, ChipAt W cb M → Calls Try.prog 31 #[.pointer (some ⟨cb, 0, none⟩), .int .i64 (a : Int), .string T] W fun e w' => e = .returned (.iface 123 (.int .i64 (writeE M (a : Int) T))) ∧ ChipAt w' cb (writeM M (a : Int) T) ∧ W.grownBy w' (some cb)) := fun W hc => by
        have := HW.out M a W hc hub
        unfold errV at this; rw [if_neg hw] at this; exact this
      have HC : Hid (ChipAt w cb M) := h
      have HNW : Hid (¬ writeE M (a : Int) T = 0) := hw
      clear hw hfull h
      generalize writeE M (a : Int) T = f at *
      go_enter Try.func78, Try.ntmps78
      go_wp2_with (first
        | (go_at_call 70; refine (HB.out _).mono ?_; rintro e w2 ⟨rfl, hx2⟩)
        | (go_at_call 43; refine (HN.out _ (HC.out.ext (((Ext.refl w).alloc _).trans hx2))).mono ?_; rintro e w3 ⟨rfl, rfl⟩)
        | (go_at_call 31; refine (HWW.out _ (HC.out.ext (((Ext.refl w).alloc _).trans hx2))).mono ?_; rintro e w4 ⟨rfl, hc4, hg4⟩))
      go_ret2
      exact ⟨.inr ⟨by rw [HR.out.1]; exact HNW.out, by rw [HR.out.1]; rfl⟩, by rw [HR.out.2]; exact hc4, grow_trans (grow_ext (((Ext.refl w).alloc _).trans hx2) _) hg4⟩
end Go.Proofs.Ytpldeejagomfjaa
