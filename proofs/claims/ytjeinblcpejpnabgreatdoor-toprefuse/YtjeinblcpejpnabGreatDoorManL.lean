/- ManK ManL. -/
import Derived.Test.YtjeinblcpejpnabGreatDoorManJ

/- Manifests on a chip: Note. -/
namespace Go.Proofs.YtjeinblcpejpnabGreatDoor
open Go.RowKit Go.WideShapes

def manTxt (m : Man) : ByteArray := txtM (encM m.ep m.lg m.nw m.od)
/-- In which block it is noted; what is erased for it; what becomes of it. -/
def noteAt (M : CM) (a : Nat) : Nat := if (M.pg a).length = 8 then 1 - a else a
def noteE0 (M : CM) (a : Nat) : Int := if (M.pg a).length = 8 then eraseE M ((1 - a : Nat) : Int) else 0
def noteM0 (M : CM) (a : Nat) : CM := if (M.pg a).length = 8 then eraseM M ((1 - a : Nat) : Int) else M
def noteE (M : CM) (a : Nat) (s : ByteArray) : Int := if ¬ noteE0 M a = 0 then noteE0 M a else writeE (noteM0 M a) (noteAt M a : Int) s
def noteM (M : CM) (a : Nat) (s : ByteArray) : CM := if ¬ noteE0 M a = 0 then noteM0 M a else writeM (noteM0 M a) (noteAt M a : Int) s

theorem tick_left (M : CM) : (tickM M).left ≤ M.left ∨ (tickM M).left ≤ 0 := by unfold tickM; split <;> simp <;> omega
theorem eraseM_left (M : CM) (b : Int) {n : Int} (h : M.left ≤ n) (hn : 0 ≤ n) : (eraseM M b).left ≤ n := by
  unfold eraseM
  split
  · exact h
  · split
    · exact h
    · split
      · exact h
      · have := tick_left M
        show (tickM M).left ≤ n
        omega
theorem encM_size0 (m : Man) : (manTxt m).size = 7 + m.nw.length + m.od.length := by
  have := encM_size m.ep m.lg m.nw m.od 0
  simpa [manTxt] using this
theorem manTxt_le {m : Man} (h : manFault m = 0) : (manTxt m).size ≤ 30 ∧ m.nw.length + m.od.length ≤ 23 := by
  obtain ⟨_, hS⟩ := manF_zero h
  obtain ⟨hr, hnd, _⟩ := scan_zero hS
  have h24 := nodup_le hr hnd
  rw [encM_size0]
  simp at h24; omega
theorem manBytes_man (m : Man) (no oo : Option Addr) (nc oc : Nat) (w : World) (hn : NumsAt w no m.nw) (ho : NumsAt w oo m.od) (hf : manFault m = 0) :
    Calls Tryz.prog 109 #[.agg #[.int .i64 m.ep, .int .i64 m.lg, .slice no m.nw.length nc, .slice oo m.od.length oc]] w fun e w' => e = .returned (.tuple #[.string (manTxt m), .nilIface]) ∧ Ext w w' := by
  obtain ⟨hE, hS⟩ := manF_zero hf
  obtain ⟨hr, _, _⟩ := scan_zero hS
  have hG := hr m.lg (by simp)
  have hle := (manTxt_le hf).2
  obtain ⟨ep, lg, nw, od⟩ := m
  dsimp only at *
  obtain ⟨E, rfl⟩ := Int.eq_ofNat_of_zero_le (show 0 ≤ ep by omega)
  obtain ⟨G, rfl⟩ := Int.eq_ofNat_of_zero_le (show 0 ≤ lg by omega)
  exact manBytes_ok E G no oo nc oc nw od w (by omega) hn ho hf

set_option maxRecDepth 20000 in
set_option maxHeartbeats 1000000 in
theorem note_bad (cb a : Nat) (m : Man) (no oo : Option Addr) (nc oc : Nat) (w : World) (hl : m.nw.length + m.od.length ≤ 100) (hn : NumsAt w no m.nw) (ho : NumsAt w oo m.od) (hf : ¬ manFault m = 0) :
    Calls Tryz.prog 87 #[.pointer (some ⟨cb, 0, none⟩), .int .i64 (a : Int), .agg #[.int .i64 m.ep, .int .i64 m.lg, .slice no m.nw.length nc, .slice oo m.od.length oc]] w fun e w' => e = .returned (.tuple #[.int .i64 0, .iface 88 (.int .i64 (manFault m))]) ∧ Ext w w' := by
  have HB : Hid (∀ o, Calls Tryz.prog 109 #[.agg #[.int .i64 m.ep, .int .i64 m.lg, .slice no m.nw.length nc, .slice oo m.od.length oc]] (w.alloc o) fun e w' => e = .returned (.tuple #[.string ⟨#[]⟩, .iface 88 (.int .i64 (manFault m))]) ∧ Ext (w.alloc o) w') := fun o => manBytes_bad m.ep m.lg no oo nc oc m.nw m.od (w.alloc o) hl (hn.ext ((Ext.refl w).alloc o)) (ho.ext ((Ext.refl w).alloc o)) hf
  clear hn ho hf hl
  generalize manFault m = f at *
  go_enter Tryz.func87, Tryz.ntmps87
  go_wp2_with (go_at_call 109; refine (HB.out _).mono ?_; rintro e w2 ⟨rfl, hx2⟩)
  go_ret2
  exact ⟨rfl, ((Ext.refl w).alloc _).trans hx2⟩

def NoteEnd (cb : Nat) (M : CM) (a : Nat) (s : ByteArray) (w : World) (e : Ending) (w' : World) : Prop :=
  (noteE M a s = 0 ∧ e = .returned (.tuple #[.int .i64 (noteAt M a : Int), .nilIface]) ∨ ¬ noteE M a s = 0 ∧ e = .returned (.tuple #[.int .i64 0, .iface 88 (.int .i64 (noteE M a s))])) ∧ ChipAt w' cb (noteM M a s) ∧ w.grownBy w' (some cb)

set_option maxRecDepth 20000 in
set_option maxHeartbeats 2000000 in
theorem note_any (cb a : Nat) (M : CM) (m : Man) (no oo : Option Addr) (nc oc : Nat) (w : World) (h : ChipAt w cb M) (ha : a ≤ 1) (hub : M.left ≤ 9223372036854775807) (hwr : WrOk M) (hn : NumsAt w no m.nw) (ho : NumsAt w oo m.od) (hf : manFault m = 0) :
    Calls Tryz.prog 87 #[.pointer (some ⟨cb, 0, none⟩), .int .i64 (a : Int), .agg #[.int .i64 m.ep, .int .i64 m.lg, .slice no m.nw.length nc, .slice oo m.od.length oc]] w (NoteEnd cb M a (manTxt m) w) := by
  have HB : Hid (∀ o, Calls Tryz.prog 109 #[.agg #[.int .i64 m.ep, .int .i64 m.lg, .slice no m.nw.length nc, .slice oo m.od.length oc]] (w.alloc o) fun e w' => e = .returned (.tuple #[.string (manTxt m), .nilIface]) ∧ Ext (w.alloc o) w') := fun o => manBytes_man m no oo nc oc (w.alloc o) (hn.ext ((Ext.refl w).alloc o)) (ho.ext ((Ext.refl w).alloc o)) hf
  have hT := (manTxt_le hf).1
  have HN : Hid (∀ W, ChipAt W cb M → Calls Tryz.prog 33 #[.pointer (some ⟨cb, 0, none⟩), .int .i64 (a : Int)] W fun e w' => e = .returned (.int .i64 ((M.pg a).length : Int)) ∧ w' = W) := fun W hc => next_any cb a M W (by omega) hc
  have HW : Hid (∀ (M' : CM) (b : Nat) W, ChipAt W cb M' → M'.left ≤ 9223372036854775807 → Calls Tryz.prog 45 #[.pointer (some ⟨cb, 0, none⟩), .int .i64 (b : Int), .string (manTxt m)] W fun e w' => e = .returned (errV (writeE M' (b : Int) (manTxt m))) ∧ ChipAt w' cb (writeM M' (b : Int) (manTxt m)) ∧ W.grownBy w' (some cb)) := fun M' b W hc hl => write_any cb (b : Int) (manTxt m) M' W hc hl (by omega)
  have HE : Hid (∀ (b : Nat) W, ChipAt W cb M → Calls Tryz.prog 66 #[.pointer (some ⟨cb, 0, none⟩), .int .i64 (b : Int)] W fun e w' => e = .returned (errV (eraseE M (b : Int))) ∧ ChipAt w' cb (eraseM M (b : Int)) ∧ W.grownBy w' (some cb)) := fun b W hc => erase_any cb (b : Int) M W hc hub hwr
  clear hn ho hf hT
  generalize manTxt m = T at *
  by_cases hfull : (M.pg a).length = 8
  · have hfull' : ((M.pg a).length : Int) = 8 := by omega
    have HA : Hid (noteAt M a = 1 - a) := by unfold noteAt Hid; rw [if_pos hfull]
    have HE0 : Hid (noteE0 M a = eraseE M ((1 - a : Nat) : Int)) := by unfold noteE0 Hid; rw [if_pos hfull]
    have HM0 : Hid (noteM0 M a = eraseM M ((1 - a : Nat) : Int)) := by unfold noteM0 Hid; rw [if_pos hfull]
    have h1a : (1 : Int) - (a : Int) = ((1 - a : Nat) : Int) := by omega
    by_cases he : eraseE M ((1 - a : Nat) : Int) = 0
    · have HEL : Hid ((eraseM M ((1 - a : Nat) : Int)).left ≤ 9223372036854775807) := eraseM_left M _ hub (by decide)
      have HEE : Hid (∀ W, ChipAt W cb M → Calls Tryz.prog 66 #[.pointer (some ⟨cb, 0, none⟩), .int .i64 ((1 - a : Nat) : Int)] W fun e w' => e = .returned (.nilIface) ∧ ChipAt w' cb (eraseM M ((1 - a : Nat) : Int)) ∧ W.grownBy w' (some cb)) := fun W hc => by
        have := HE.out (1 - a) W hc; rw [he] at this; exact this
      by_cases hw : writeE (eraseM M ((1 - a : Nat) : Int)) ((1 - a : Nat) : Int) T = 0
      · have HR : Hid (noteE M a T = 0 ∧ noteM M a T = writeM (eraseM M ((1 - a : Nat) : Int)) ((1 - a : Nat) : Int) T) := by
          unfold noteE noteM Hid; rw [HE0.out, HM0.out, HA.out, if_neg (by simp [he]), if_neg (by simp [he])]; exact ⟨hw, rfl⟩
        have HWW : Hid (∀ W, ChipAt W cb (eraseM M ((1 - a : Nat) : Int)) → Calls Tryz.prog 45 #[.pointer (some ⟨cb, 0, none⟩), .int .i64 ((1 - a : Nat) : Int), .string T] W fun e w' => e = .returned .nilIface ∧ ChipAt w' cb (writeM (eraseM M ((1 - a : Nat) : Int)) ((1 - a : Nat) : Int) T) ∧ W.grownBy w' (some cb)) := fun W hc => by
          have := HW.out (eraseM M ((1 - a : Nat) : Int)) (1 - a) W hc HEL.out; rw [hw] at this; exact this
        have HC : Hid (ChipAt w cb M) := h
        clear hw hfull h he
        generalize eraseM M ((1 - a : Nat) : Int) = M1 at *
        generalize hA1 : 1 - a = a1 at *
        go_enter Tryz.func87, Tryz.ntmps87
        go_wp2_with (first
          | (go_at_call 109; refine (HB.out _).mono ?_; rintro e w2 ⟨rfl, hx2⟩)
          | (go_at_call 33; refine (HN.out _ (HC.out.ext (((Ext.refl w).alloc _).trans hx2))).mono ?_; rintro e w3 ⟨rfl, rfl⟩)
          | (go_at_call 66; refine (HEE.out _ (HC.out.ext (((Ext.refl w).alloc _).trans hx2))).mono ?_; rintro e w5 ⟨rfl, hc5, hg5⟩)
          | (go_at_call 45; refine (HWW.out _ hc5).mono ?_; rintro e w4 ⟨rfl, hc4, hg4⟩))
        go_ret2
        exact ⟨.inl ⟨HR.out.1, by rw [HA.out]; rfl⟩, by rw [HR.out.2]; exact hc4, grow_trans (grow_ext (((Ext.refl w).alloc _).trans hx2) _) (grow_trans hg5 hg4)⟩
      · have HR : Hid (noteE M a T = writeE (eraseM M ((1 - a : Nat) : Int)) ((1 - a : Nat) : Int) T ∧ noteM M a T = writeM (eraseM M ((1 - a : Nat) : Int)) ((1 - a : Nat) : Int) T) := by
          unfold noteE noteM Hid; rw [HE0.out, HM0.out, HA.out, if_neg (by simp [he]), if_neg (by simp [he])]; exact ⟨rfl, rfl⟩
        have HWW : Hid (∀ W, ChipAt W cb (eraseM M ((1 - a : Nat) : Int)) → Calls Tryz.prog 45 #[.pointer (some ⟨cb, 0, none⟩), .int .i64 ((1 - a : Nat) : Int), .string T] W fun e w' => e = .returned (.iface 88 (.int .i64 (writeE (eraseM M ((1 - a : Nat) : Int)) ((1 - a : Nat) : Int) T))) ∧ ChipAt w' cb (writeM (eraseM M ((1 - a : Nat) : Int)) ((1 - a : Nat) : Int) T) ∧ W.grownBy w' (some cb)) := fun W hc => by
          have := HW.out (eraseM M ((1 - a : Nat) : Int)) (1 - a) W hc HEL.out; unfold errV at this; rw [if_neg hw] at this; exact this
        have HC : Hid (ChipAt w cb M) := h
        have HNW : Hid (¬ writeE (eraseM M ((1 - a : Nat) : Int)) ((1 - a : Nat) : Int) T = 0) := hw
        clear hw hfull h he
        generalize writeE (eraseM M ((1 - a : Nat) : Int)) ((1 - a : Nat) : Int) T = f at *
        generalize eraseM M ((1 - a : Nat) : Int) = M1 at *
        generalize hA1 : 1 - a = a1 at *
        go_enter Tryz.func87, Tryz.ntmps87
        go_wp2_with (first
          | (go_at_call 109; refine (HB.out _).mono ?_; rintro e w2 ⟨rfl, hx2⟩)
          | (go_at_call 33; refine (HN.out _ (HC.out.ext (((Ext.refl w).alloc _).trans hx2))).mono ?_; rintro e w3 ⟨rfl, rfl⟩)
          | (go_at_call 66; refine (HEE.out _ (HC.out.ext (((Ext.refl w).alloc _).trans hx2))).mono ?_; rintro e w5 ⟨rfl, hc5, hg5⟩)
          | (go_at_call 45; refine (HWW.out _ hc5).mono ?_; rintro e w4 ⟨rfl, hc4, hg4⟩))
        go_ret2
        exact ⟨.inr ⟨by rw [HR.out.1]; exact HNW.out, by rw [HR.out.1]; rfl⟩, by rw [HR.out.2]; exact hc4, grow_trans (grow_ext (((Ext.refl w).alloc _).trans hx2) _) (grow_trans hg5 hg4)⟩
    · have HR : Hid (noteE M a T = eraseE M ((1 - a : Nat) : Int) ∧ noteM M a T = eraseM M ((1 - a : Nat) : Int)) := by
        unfold noteE noteM Hid; rw [HE0.out, HM0.out, if_pos he, if_pos he]; exact ⟨rfl, rfl⟩
      have HC : Hid (ChipAt w cb M) := h
      have HEE : Hid (∀ W, ChipAt W cb M → Calls Tryz.prog 66 #[.pointer (some ⟨cb, 0, none⟩), .int .i64 ((1 - a : Nat) : Int)] W fun e w' => e = .returned (.iface 88 (.int .i64 (eraseE M ((1 - a : Nat) : Int)))) ∧ ChipAt w' cb (eraseM M ((1 - a : Nat) : Int)) ∧ W.grownBy w' (some cb)) := fun W hc => by
        have := HE.out (1 - a) W hc; unfold errV at this; rw [if_neg he] at this; exact this
      have HNW : Hid (¬ eraseE M ((1 - a : Nat) : Int) = 0) := he
      clear hfull h he
      generalize eraseE M ((1 - a : Nat) : Int) = f at *
      generalize eraseM M ((1 - a : Nat) : Int) = M1 at *
      generalize hA1 : 1 - a = a1 at *
      go_enter Tryz.func87, Tryz.ntmps87
      go_wp2_with (first
        | (go_at_call 109; refine (HB.out _).mono ?_; rintro e w2 ⟨rfl, hx2⟩)
        | (go_at_call 33; refine (HN.out _ (HC.out.ext (((Ext.refl w).alloc _).trans hx2))).mono ?_; rintro e w3 ⟨rfl, rfl⟩)
        | (go_at_call 66; refine (HEE.out _ (HC.out.ext (((Ext.refl w).alloc _).trans hx2))).mono ?_; rintro e w5 ⟨rfl, hc5, hg5⟩))
      go_ret2
      exact ⟨.inr ⟨by rw [HR.out.1]; exact HNW.out, by rw [HR.out.1]; rfl⟩, by rw [HR.out.2]; exact hc5, grow_trans (grow_ext (((Ext.refl w).alloc _).trans hx2) _) hg5⟩
  · have hfull' : ¬ ((M.pg a).length : Int) = 8 := by omega
    have HA : Hid (noteAt M a = a) := by unfold noteAt Hid; rw [if_neg hfull]
    have HE0 : Hid (noteE0 M a = 0) := by unfold noteE0 Hid; rw [if_neg hfull]
    have HM0 : Hid (noteM0 M a = M) := by unfold noteM0 Hid; rw [if_neg hfull]
    by_cases hw : writeE M (a : Int) T = 0
    · have HR : Hid (noteE M a T = 0 ∧ noteM M a T = writeM M (a : Int) T) := by
        unfold noteE noteM Hid; rw [HE0.out, HM0.out, HA.out, if_neg (by simp), if_neg (by simp)]; exact ⟨hw, rfl⟩
      have HWW : Hid (∀ W, ChipAt W cb M → Calls Tryz.prog 45 #[.pointer (some ⟨cb, 0, none⟩), .int .i64 (a : Int), .string T] W fun e w' => e = .returned .nilIface ∧ ChipAt w' cb (writeM M (a : Int) T) ∧ W.grownBy w' (some cb)) := fun W hc => by
        have := HW.out M a W hc hub
        rw [hw] at this; exact this
      have HC : Hid (ChipAt w cb M) := h
      clear hw hfull h
      go_enter Tryz.func87, Tryz.ntmps87
      go_wp2_with (first
        | (go_at_call 109; refine (HB.out _).mono ?_; rintro e w2 ⟨rfl, hx2⟩)
        | (go_at_call 33; refine (HN.out _ (HC.out.ext (((Ext.refl w).alloc _).trans hx2))).mono ?_; rintro e w3 ⟨rfl, rfl⟩)
        | (go_at_call 45; refine (HWW.out _ (HC.out.ext (((Ext.refl w).alloc _).trans hx2))).mono ?_; rintro e w4 ⟨rfl, hc4, hg4⟩))
      go_ret2
      exact ⟨.inl ⟨HR.out.1, by rw [HA.out]; rfl⟩, by rw [HR.out.2]; exact hc4, grow_trans (grow_ext (((Ext.refl w).alloc _).trans hx2) _) hg4⟩
    · have HR : Hid (noteE M a T = writeE M (a : Int) T ∧ noteM M a T = writeM M (a : Int) T) := by
        unfold noteE noteM Hid; rw [HE0.out, HM0.out, HA.out, if_neg (by simp), if_neg (by simp)]; exact ⟨rfl, rfl⟩
      have HWW : Hid (∀ W, ChipAt W cb M → Calls Tryz.prog 45 #[.pointer (some ⟨cb, 0, none⟩), .int .i64 (a : Int), .string T] W fun e w' => e = .returned (.iface 88 (.int .i64 (writeE M (a : Int) T))) ∧ ChipAt w' cb (writeM M (a : Int) T) ∧ W.grownBy w' (some cb)) := fun W hc => by
        have := HW.out M a W hc hub
        unfold errV at this; rw [if_neg hw] at this; exact this
      have HC : Hid (ChipAt w cb M) := h
      have HNW : Hid (¬ writeE M (a : Int) T = 0) := hw
      clear hw hfull h
      generalize writeE M (a : Int) T = f at *
      go_enter Tryz.func87, Tryz.ntmps87
      go_wp2_with (first
        | (go_at_call 109; refine (HB.out _).mono ?_; rintro e w2 ⟨rfl, hx2⟩)
        | (go_at_call 33; refine (HN.out _ (HC.out.ext (((Ext.refl w).alloc _).trans hx2))).mono ?_; rintro e w3 ⟨rfl, rfl⟩)
        | (go_at_call 45; refine (HWW.out _ (HC.out.ext (((Ext.refl w).alloc _).trans hx2))).mono ?_; rintro e w4 ⟨rfl, hc4, hg4⟩))
      go_ret2
      exact ⟨.inr ⟨by rw [HR.out.1]; exact HNW.out, by rw [HR.out.1]; rfl⟩, by rw [HR.out.2]; exact hc4, grow_trans (grow_ext (((Ext.refl w).alloc _).trans hx2) _) hg4⟩
end Go.Proofs.YtjeinblcpejpnabGreatDoor

/- Manifests on a chip, in plain words: which one is the newest. -/
namespace Go.Proofs.YtjeinblcpejpnabGreatDoor
open Go.RowKit Go.WideShapes

theorem byteL_app {h t : List UInt8} {i : Nat} (hi : i < h.length) : byteL (h ++ t) i = byteL h i := by
  unfold byteL; rw [List.getD_eq_getElem?_getD, List.getD_eq_getElem?_getD, List.getElem?_append_left hi]
/-- What is written is read. -/
theorem parse_pad {m : Man} (hf : manFault m = 0) (z : Nat) : parseB (encM m.ep m.lg m.nw m.od ++ List.replicate z 0) = some m := by
  obtain ⟨hE, hS⟩ := manF_zero hf
  obtain ⟨hr, hnd, _⟩ := scan_zero hS
  have h24 := nodup_le hr hnd
  have hG := hr m.lg (by simp)
  have hrn : ∀ x ∈ m.nw, 2 ≤ x ∧ x < 24 := fun x hx => hr x (by simp [hx])
  have hro : ∀ x ∈ m.od, 2 ≤ x ∧ x < 24 := fun x hx => hr x (by simp [hx])
  obtain ⟨ep, lg, nw, od⟩ := m
  dsimp only at *
  have hle : nw.length + od.length ≤ 23 := by simp at h24; omega
  obtain ⟨E, rfl⟩ := Int.eq_ofNat_of_zero_le (show 0 ≤ ep by omega)
  obtain ⟨G, rfl⟩ := Int.eq_ofNat_of_zero_le (show 0 ≤ lg by omega)
  have en : (UInt8.ofNat nw.length).toNat = nw.length := by simp; omega
  have eo : (UInt8.ofNat od.length).toNat = od.length := by simp; omega
  have x1 : ((byt ((E : Int) % 256)).toNat : Int) = (E : Int) % 256 := by
    have := byt_nat (E % 256) (by omega); simpa using this
  have x2 : ((byt ((E : Int) / 256 % 256)).toNat : Int) = (E : Int) / 256 % 256 := by
    have := byt_nat (E / 256 % 256) (by omega); simpa using this
  have x3 : ((byt ((E : Int) / 65536)).toNat : Int) = (E : Int) / 65536 := by
    have := byt_nat (E / 65536) (by omega); simpa using this
  have x4 := byt_nat G (by omega)
  have hlen : (encM (E : Int) (G : Int) nw od ++ List.replicate z 0).length = 7 + nw.length + od.length + z := by simp [encM]; omega
  have b0 : byteL (encM (E : Int) (G : Int) nw od ++ List.replicate z 0) 0 = 77 := rfl
  have b1 : byteL (encM (E : Int) (G : Int) nw od ++ List.replicate z 0) 1 = (byt ((E : Int) % 256)).toNat := rfl
  have b2 : byteL (encM (E : Int) (G : Int) nw od ++ List.replicate z 0) 2 = (byt ((E : Int) / 256 % 256)).toNat := rfl
  have b3 : byteL (encM (E : Int) (G : Int) nw od ++ List.replicate z 0) 3 = (byt ((E : Int) / 65536)).toNat := rfl
  have b4 : byteL (encM (E : Int) (G : Int) nw od ++ List.replicate z 0) 4 = (byt (G : Int)).toNat := rfl
  have b5 : byteL (encM (E : Int) (G : Int) nw od ++ List.replicate z 0) 5 = nw.length := en
  have b6 : byteL (encM (E : Int) (G : Int) nw od ++ List.replicate z 0) 6 = od.length := eo
  have d1 : ((encM (E : Int) (G : Int) nw od ++ List.replicate z 0).drop 7).take nw.length = nw.map byt := by
    rw [show nw.length = (nw.map byt).length by simp]; simp [encM, -List.length_map]
  have d2 : ((encM (E : Int) (G : Int) nw od ++ List.replicate z 0).drop (7 + nw.length)).take od.length = od.map byt := by
    rw [← List.drop_drop, show od.length = (od.map byt).length by simp, show nw.length = (nw.map byt).length by simp]; simp [encM, -List.length_map]
  have hraw : rawM (encM (E : Int) (G : Int) nw od ++ List.replicate z 0) = ⟨(E : Int), (G : Int), nw, od⟩ := by
    unfold rawM
    rw [b1, b2, b3, b4, b5, b6, d1, d2, x1, x2, x3, x4, numsOf_byt hrn, numsOf_byt hro, show (E : Int) % 256 + 256 * ((E : Int) / 256 % 256) + 65536 * ((E : Int) / 65536) = (E : Int) by omega]
  unfold parseB
  rw [hraw, if_pos ⟨by omega, b0, by omega, hf⟩]
theorem parse_padD {m : Man} (hf : manFault m = 0) : parseB (padD (manTxt m)) = some m := by
  have : padD (manTxt m) = encM m.ep m.lg m.nw m.od ++ List.replicate (64 - (manTxt m).size) 0 := rfl
  rw [this]; exact parse_pad hf _

def pgM (l : List Pg) (p : Nat) : Option Man := match l[p]? with
  | some (.whole d) => parseB d
  | _ => none
theorem pageM_pg (M : CM) (b p : Nat) : pageM M b p = pgM (M.pg b) p := rfl
theorem pgM_nil (p : Nat) : pgM [] p = none := rfl
theorem pgM_end (l : List Pg) (d : List UInt8) : pgM (l ++ [.whole d]) l.length = parseB d := by unfold pgM; simp
theorem pgM_snoc (l : List Pg) (x : Pg) (p : Nat) (m : Man) (h : pgM (l ++ [x]) p = some m) (hp : ¬ (p = l.length ∧ ∃ d, x = .whole d)) : pgM l p = some m := by
  rcases Nat.lt_trichotomy p l.length with h1 | h1 | h1
  · unfold pgM at h ⊢; rw [List.getElem?_append_left h1] at h; exact h
  · subst h1
    unfold pgM at h; simp at h
    cases x with
    | whole d => exact absurd ⟨rfl, d, rfl⟩ hp
    | torn => simp at h
  · unfold pgM at h; rw [List.getElem?_eq_none (by simp; omega)] at h; cases h
theorem pgM_lt {l : List Pg} {p : Nat} {m : Man} (h : pgM l p = some m) : p < l.length := by
  rcases Nat.lt_or_ge p l.length with h1 | h1
  · exact h1
  · unfold pgM at h; rw [List.getElem?_eq_none h1] at h; cases h
theorem pgM_app {l : List Pg} {x : Pg} {p : Nat} (h : p < l.length) : pgM (l ++ [x]) p = pgM l p := by
  unfold pgM; rw [List.getElem?_append_left h]
theorem pgM_torn8 (p : Nat) : pgM (List.replicate 8 .torn) p = none := by
  unfold pgM
  rcases Nat.lt_or_ge p 8 with h | h
  · rw [torn8 p h]
  · rw [List.getElem?_eq_none (by simpa using h)]

def epO (o : Option Man) : Int := match o with
  | none => 1
  | some m => m.ep
/-- The newest one (if there is one) is in block a; it can be noted on. -/
structure Nst (M : CM) (a : Nat) (o : Option Man) : Prop where
  le : a ≤ 1
  up : M.pend = none
  sound : ∀ b, b < 2 → M.wk b = false ∧ M.bd b = false
  len : ∀ b, b < 2 → (M.pg b).length ≤ 8
  new : ∃ p, pageM M a p = o ∧ ∀ b q m', b < 2 → ¬ (b = a ∧ q = p) → pageM M b q = some m' → m'.ep < epO o
theorem Nst.low {M : CM} {a : Nat} {o : Option Man} (h : Nst M a o) {e : Int} (h1 : 1 ≤ e) (h2 : ∀ m, o = some m → m.ep < e) : ∀ b q m', b < 2 → pageM M b q = some m' → m'.ep < e := by
  obtain ⟨p, hp, hl⟩ := h.new
  intro b q m' hb hq
  by_cases hc : b = a ∧ q = p
  · obtain ⟨rfl, rfl⟩ := hc
    rw [hp] at hq
    exact h2 m' hq
  · have := hl b q m' hb hc hq
    cases o with
    | none => simp only [epO] at this; omega
    | some m => have := h2 m rfl; simp only [epO] at *; omega
/-- What changes neither pages nor whether blocks are sound. -/
theorem Nst.keep {M M' : CM} {a : Nat} {o : Option Man} (h : Nst M a o) (hp : M'.pend = none) (h1 : M'.pg = M.pg) (h2 : M'.wk = M.wk) (h3 : M'.bd = M.bd) : Nst M' a o := by
  refine ⟨h.le, hp, by rw [h2, h3]; exact h.sound, by rw [h1]; exact h.len, ?_⟩
  obtain ⟨p, hp, hl⟩ := h.new
  refine ⟨p, by rw [pageM_pg, h1, ← pageM_pg]; exact hp, fun b q m' hb hn hq => hl b q m' hb hn (by rw [pageM_pg, ← h1, ← pageM_pg]; exact hq)⟩

/-- Good: more than what is seen is not there; what is seen is there. -/
structure Seen (M : CM) (b k : Nat) (o : Option (Man × Nat)) : Prop where
  low : ∀ b' p' m', (b' < b ∧ p' < 8 ∨ b' = b ∧ p' < k) → pageM M b' p' = some m' → m'.ep ≤ (oM o).ep
  is : ∀ m a, o = some (m, a) → ∃ p, (a < b ∧ p < 8 ∨ a = b ∧ p < k) ∧ pageM M a p = some m
theorem Seen.step {M : CM} {b k : Nat} {o : Option (Man × Nat)} (h : Seen M b k o) : Seen M b (k + 1) (better o b (pageM M b k)) := by
  cases hq : pageM M b k with
  | none =>
    refine ⟨fun b' p' m' hs hp => ?_, fun m a he => ?_⟩
    · by_cases hc : b' = b ∧ p' = k
      · rw [hc.1, hc.2, hq] at hp; cases hp
      · exact h.low b' p' m' (by omega) hp
    · obtain ⟨p, h1, h2⟩ := h.is m a he
      exact ⟨p, by omega, h2⟩
  | some m0 =>
    simp only [better]
    split
    · rename_i hlt
      refine ⟨fun b' p' m' hs hp => ?_, fun m a he => ?_⟩
      · show m'.ep ≤ m0.ep
        by_cases hc : b' = b ∧ p' = k
        · rw [hc.1, hc.2, hq] at hp; cases hp; omega
        · have := h.low b' p' m' (by omega) hp; omega
      · simp at he
        obtain ⟨rfl, rfl⟩ := he
        exact ⟨k, by omega, hq⟩
    · rename_i hge
      refine ⟨fun b' p' m' hs hp => ?_, fun m a he => ?_⟩
      · by_cases hc : b' = b ∧ p' = k
        · rw [hc.1, hc.2, hq] at hp; cases hp; omega
        · exact h.low b' p' m' (by omega) hp
      · obtain ⟨p, h1, h2⟩ := h.is m a he
        exact ⟨p, by omega, h2⟩
theorem Seen.scan {M : CM} {b : Nat} {o : Option (Man × Nat)} (h : Seen M b 0 o) : ∀ k, Seen M b k (scanB M b o k)
  | 0 => h
  | k + 1 => (Seen.scan h k).step
theorem seen_out (M : CM) : ∀ b, Seen M b 0 (outS M b)
  | 0 => ⟨fun b' p' m' h => by omega, fun m a h => by cases h⟩
  | b + 1 => by
    have := (seen_out M b).scan 8
    refine ⟨fun b' p' m' hs hp => this.low b' p' m' (by omega) hp, fun m a he => ?_⟩
    obtain ⟨p, h1, h2⟩ := this.is m a he
    exact ⟨p, by omega, h2⟩
theorem find_some {M : CM} {a : Nat} {m : Man} (h : Nst M a (some m)) : findS M = some (m, a) := by
  have hs := seen_out M 2
  obtain ⟨p, hp, hl⟩ := h.new
  have hf := pageM_fault hp
  have hep := (manFault_ep hf).1
  have hp8 : p < 8 := by
    have := pgM_lt hp; have := h.len a (by have := h.le; omega); omega
  have h1 := hs.low a p m (by have := h.le; omega) hp
  show outS M 2 = _
  cases ho : outS M 2 with
  | none => rw [ho] at h1; simp only [oM] at h1; omega
  | some n =>
    obtain ⟨m', a'⟩ := n
    rw [ho] at h1
    simp only [oM] at h1
    obtain ⟨p', h2, h3⟩ := hs.is m' a' ho
    by_cases hc : a' = a ∧ p' = p
    · rw [hc.1, hc.2, hp] at h3; cases h3; rw [hc.1]
    · have := hl a' p' m' (by omega) hc h3
      simp only [epO] at this; omega
theorem find_none {M : CM} {a : Nat} (h : Nst M a none) : findS M = none := by
  have hs := seen_out M 2
  show outS M 2 = none
  cases ho : outS M 2 with
  | none => rfl
  | some n =>
    obtain ⟨m', a'⟩ := n
    obtain ⟨p', h2, h3⟩ := hs.is m' a' ho
    have := h.low (e := 1) (by omega) (fun m hm => by cases hm) a' p' m' (by omega) h3
    have := (manFault_ep (pageM_fault h3)).1
    omega
end Go.Proofs.YtjeinblcpejpnabGreatDoor
